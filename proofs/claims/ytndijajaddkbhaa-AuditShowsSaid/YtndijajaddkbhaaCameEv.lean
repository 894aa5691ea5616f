/- Entries of the logs that came in. -/
import Derived.Test.YtndijajaddkbhaaCameG
import Derived.Test.YtndijajaddkbhaaEvA
namespace Go.Proofs.Ytndijajaddkbhaa.Re
open Go.RowKit AM
set_option linter.unusedSimpArgs false
section
variable {H : Type} {enc : TypeId × Value → H} {w : World} {base : Nat} {spare : Nat → Bool} {held : Bool} {fuel : Nat} {cs : List Value} {y : DataW H × List MemPlace}
theorem cl_ref : Try.prog.cellsOf 44 = 2 := by kernel_rfl
theorem cl_call : Try.prog.cellsOf 86 = 3 := by kernel_rfl
set_option maxRecDepth 100000 in
theorem event_came (h : DataW.trod enc Try.prog w base spare held fuel 84 cs = some y) : ∃ r : EV, cs = cellsEV r := by
  obtain ⟨xs, n, _, _, hl, hlen, hf⟩ := DataW.trod_struct Try.underlying84 h
  have hl' : cs.length = 9 := hl.trans (by kernel_rfl)
  match cs, hl' with
  | [c0, c1, c2, c3, c4, c5, c6, c7, c8], _ =>
    have hx : ∀ i, i < 6 → ∃ x, xs[i]? = some x := fun i hi => ⟨_, List.getElem?_eq_getElem (by rw [hlen]; exact hi)⟩
    obtain ⟨x0, e0⟩ := hx 0 (by decide)
    obtain ⟨x1, e1⟩ := hx 1 (by decide)
    obtain ⟨x2, e2⟩ := hx 2 (by decide)
    obtain ⟨x3, e3⟩ := hx 3 (by decide)
    obtain ⟨x4, e4⟩ := hx 4 (by decide)
    obtain ⟨x5, e5⟩ := hx 5 (by decide)
    obtain ⟨u0, q0, g0⟩ := DataW.trod_int Try.underlying3 ((hf 0 _ rfl).trans e0)
    obtain ⟨u1, q1, g1⟩ := DataW.trod_int Try.underlying3 ((hf 1 _ rfl).trans e1)
    obtain ⟨u2, q2, g2⟩ := DataW.trod_int Try.underlying5 ((hf 2 _ rfl).trans e2)
    obtain ⟨a3, b3, d3, f3, q3⟩ := rect_came ((hf 3 _ rfl).trans e3)
    obtain ⟨u4, q4, _⟩ := DataW.trod_bool Try.underlying4 ((hf 4 _ rfl).trans e4)
    obtain ⟨u5, q5, g5⟩ := DataW.trod_int Try.underlying31 ((hf 5 _ rfl).trans e5)
    simp [cl_rect, cl_u8, cl_u64, cl_int, cl_bool, cl_ref, cl_call, cells2] at q0 q1 q2 q3 q4 q5
    obtain ⟨m2, rfl⟩ := u8_word g2.2
    obtain ⟨m5, rfl⟩ := u64_word g5.2
    obtain ⟨r30, r31, r32, r33⟩ := q3
    exact ⟨⟨u0, u1, m2, a3, b3, d3, f3, u4, m5⟩, by rw [q0, q1, q2, r30, r31, r32, r33, q4, q5]; rfl⟩
set_option maxRecDepth 100000 in
theorem call_came (h : DataW.trod enc Try.prog w base spare held fuel 86 cs = some y) : ∃ a b c : Int, cs = [.int .i64 a, .int .i64 b, .int .i64 c] := by
  obtain ⟨xs, n, _, _, hl, hlen, hf⟩ := DataW.trod_struct Try.underlying86 h
  have hl' : cs.length = 3 := hl.trans (by kernel_rfl)
  match cs, hl' with
  | [c0, c1, c2], _ =>
    have hx : ∀ i, i < 2 → ∃ x, xs[i]? = some x := fun i hi => ⟨_, List.getElem?_eq_getElem (by rw [hlen]; exact hi)⟩
    obtain ⟨x0, e0⟩ := hx 0 (by decide)
    obtain ⟨x1, e1⟩ := hx 1 (by decide)
    obtain ⟨u0, q0⟩ := ref_came ((hf 0 _ rfl).trans e0)
    obtain ⟨u1, q1, g1⟩ := DataW.trod_int Try.underlying3 ((hf 1 _ rfl).trans e1)
    simp [cl_rect, cl_u8, cl_u64, cl_int, cl_bool, cl_ref, cl_call, cells2] at q0 q1
    obtain ⟨r00, r01⟩ := q0
    exact ⟨u0.1, u0.2, u1, by rw [r00, r01, q1]⟩
set_option maxRecDepth 100000 in
theorem release_came (h : DataW.trod enc Try.prog w base spare held fuel 88 cs = some y) : ∃ r : LV, cs = cellsLV r := by
  obtain ⟨xs, n, _, _, hl, hlen, hf⟩ := DataW.trod_struct Try.underlying88 h
  have hl' : cs.length = 11 := hl.trans (by kernel_rfl)
  match cs, hl' with
  | [c0, c1, c2, c3, c4, c5, c6, c7, c8, c9, c10], _ =>
    have hx : ∀ i, i < 6 → ∃ x, xs[i]? = some x := fun i hi => ⟨_, List.getElem?_eq_getElem (by rw [hlen]; exact hi)⟩
    obtain ⟨x0, e0⟩ := hx 0 (by decide)
    obtain ⟨x1, e1⟩ := hx 1 (by decide)
    obtain ⟨x2, e2⟩ := hx 2 (by decide)
    obtain ⟨x3, e3⟩ := hx 3 (by decide)
    obtain ⟨x4, e4⟩ := hx 4 (by decide)
    obtain ⟨x5, e5⟩ := hx 5 (by decide)
    obtain ⟨u0, q0, g0⟩ := DataW.trod_int Try.underlying3 ((hf 0 _ rfl).trans e0)
    obtain ⟨u1, v1, z1, q1⟩ := call_came ((hf 1 _ rfl).trans e1)
    obtain ⟨u2, q2, g2⟩ := DataW.trod_int Try.underlying5 ((hf 2 _ rfl).trans e2)
    obtain ⟨a3, b3, d3, f3, q3⟩ := rect_came ((hf 3 _ rfl).trans e3)
    obtain ⟨u4, q4, g4⟩ := DataW.trod_int Try.underlying3 ((hf 4 _ rfl).trans e4)
    obtain ⟨u5, q5, g5⟩ := DataW.trod_int Try.underlying31 ((hf 5 _ rfl).trans e5)
    simp [cl_rect, cl_u8, cl_u64, cl_int, cl_bool, cl_ref, cl_call, cells2] at q0 q1 q2 q3 q4 q5
    obtain ⟨m2, rfl⟩ := u8_word g2.2
    obtain ⟨m5, rfl⟩ := u64_word g5.2
    obtain ⟨r10, r11, r12⟩ := q1
    obtain ⟨r30, r31, r32, r33⟩ := q3
    exact ⟨⟨u0, u1, v1, z1, m2, a3, b3, d3, f3, u4, m5⟩, by rw [q0, r10, r11, r12, q2, r30, r31, r32, r33, q4, q5]; rfl⟩
end
end Go.Proofs.Ytndijajaddkbhaa.Re
