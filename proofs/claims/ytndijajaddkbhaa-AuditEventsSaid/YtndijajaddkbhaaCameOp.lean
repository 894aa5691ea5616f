/- Operations that came in. -/
import Derived.Test.YtndijajaddkbhaaCameG
import Derived.Test.YtndijajaddkbhaaOpA
namespace Go.Proofs.Ytndijajaddkbhaa.Re
open Go.RowKit AM
set_option linter.unusedSimpArgs false
set_option linter.unusedVariables false
section
variable {H : Type} {enc : TypeId × Value → H} {w : World} {base : Nat} {spare : Nat → Bool} {held : Bool} {fuel : Nat} {cs : List Value} {y : DataW H × List MemPlace}
theorem cl_str : Try.prog.cellsOf 9 = 1 := by kernel_rfl
set_option maxRecDepth 100000 in
theorem op_came (h : DataW.trod enc Try.prog w base spare held fuel 91 cs = some y) : ∃ r : OP, cs = cellsOP r := by
  obtain ⟨xs, n, _, _, hl, hlen, hf⟩ := DataW.trod_struct Try.underlying91 h
  have hl' : cs.length = 13 := hl.trans (by kernel_rfl)
  match cs, hl' with
  | [c0, c1, c2, c3, c4, c5, c6, c7, c8, c9, c10, c11, c12], _ =>
    have hx : ∀ i, i < 8 → ∃ x, xs[i]? = some x := fun i hi => ⟨_, List.getElem?_eq_getElem (by rw [hlen]; exact hi)⟩
    obtain ⟨x0, e0⟩ := hx 0 (by decide)
    obtain ⟨x1, e1⟩ := hx 1 (by decide)
    obtain ⟨x2, e2⟩ := hx 2 (by decide)
    obtain ⟨x3, e3⟩ := hx 3 (by decide)
    obtain ⟨x4, e4⟩ := hx 4 (by decide)
    obtain ⟨x5, e5⟩ := hx 5 (by decide)
    obtain ⟨x6, e6⟩ := hx 6 (by decide)
    obtain ⟨x7, e7⟩ := hx 7 (by decide)
    obtain ⟨u0, q0, g0⟩ := DataW.trod_int Try.underlying5 ((hf 0 _ rfl).trans e0)
    obtain ⟨u1, q1, g1⟩ := DataW.trod_int Try.underlying3 ((hf 1 _ rfl).trans e1)
    obtain ⟨a2, b2, d2, f2, q2⟩ := rect_came ((hf 2 _ rfl).trans e2)
    obtain ⟨u3, q3, _, g3⟩ := DataW.trod_string Try.underlying9 ((hf 3 _ rfl).trans e3)
    obtain ⟨p4, v4, z4, q4⟩ := rights_came ((hf 4 _ rfl).trans e4)
    obtain ⟨u5, q5, g5⟩ := DataW.trod_int Try.underlying5 ((hf 5 _ rfl).trans e5)
    obtain ⟨u6, q6, g6⟩ := DataW.trod_int Try.underlying31 ((hf 6 _ rfl).trans e6)
    obtain ⟨u7, q7, g7⟩ := DataW.trod_int Try.underlying3 ((hf 7 _ rfl).trans e7)
    simp [cl_rect, cl_u8, cl_u64, cl_int, cl_bool, cl_str, cl_rights] at q0 q1 q2 q3 q4 q5 q6 q7
    obtain ⟨m0, rfl⟩ := u8_word g0.2
    obtain ⟨m5, rfl⟩ := u8_word g5.2
    obtain ⟨m6, rfl⟩ := u64_word g6.2
    obtain ⟨r20, r21, r22, r23⟩ := q2
    obtain ⟨r40, r41, r42⟩ := q4
    exact ⟨⟨m0, u1, a2, b2, d2, f2, u3, p4, v4, z4, m5, m6, u7⟩, by rw [q0, q1, r20, r21, r22, r23, q3, r40, r41, r42, q5, q6, q7]; rfl⟩
end
end Go.Proofs.Ytndijajaddkbhaa.Re
