/- Rules, ranges and addresses that came in. -/
import Derived.Test.YthgnhdfppmoooaaAclA
import Derived.ChangeArms
import Derived.DataShut
namespace Go.Proofs.Ythgnhdfppmoooaa.Re
open Go.RowKit AM
section
variable {H : Type} {enc : TypeId × Value → H} {w : World} {base : Nat} {spare : Nat → Bool} {held : Bool} {fuel : Nat} {cs : List Value} {y : DataW H × List MemPlace}
theorem cl_int : Try.prog.cellsOf 3 = 1 := by kernel_rfl
theorem cl_u64 : Try.prog.cellsOf 40 = 1 := by kernel_rfl
theorem cl_rect : Try.prog.cellsOf 23 = 4 := by kernel_rfl
theorem cl_rights : Try.prog.cellsOf 42 = 3 := by kernel_rfl
theorem u64_word {n : Int} (h : (Lit.int .u64 n).wf = true) : ∃ x : W64, n = (x.toNat : Int) := by
  rw [Lit.wf_int_iff] at h
  simp [IntKind.min, IntKind.max, IntKind.signed, IntKind.bits] at h
  refine ⟨BitVec.ofInt 64 n, ?_⟩
  rw [BitVec.toNat_ofInt]
  omega
set_option maxRecDepth 100000 in
theorem rect_came (h : DataW.trod enc Try.prog w base spare held fuel 23 cs = some y) : ∃ a b c d : Int, cs = [.int .i64 a, .int .i64 b, .int .i64 c, .int .i64 d] := by
  obtain ⟨xs, n, _, _, hl, hlen, hf⟩ := DataW.trod_struct Try.underlying23 h
  have hl' : cs.length = 4 := hl.trans cl_rect
  match cs, hl' with
  | [c0, c1, c2, c3], _ =>
    have hx : ∀ i, i < 4 → ∃ x, xs[i]? = some x := fun i hi => ⟨_, List.getElem?_eq_getElem (by rw [hlen]; exact hi)⟩
    obtain ⟨x0, e0⟩ := hx 0 (by decide)
    obtain ⟨x1, e1⟩ := hx 1 (by decide)
    obtain ⟨x2, e2⟩ := hx 2 (by decide)
    obtain ⟨x3, e3⟩ := hx 3 (by decide)
    obtain ⟨u0, q0, _⟩ := DataW.trod_int Try.underlying3 ((hf 0 _ rfl).trans e0)
    obtain ⟨u1, q1, _⟩ := DataW.trod_int Try.underlying3 ((hf 1 _ rfl).trans e1)
    obtain ⟨u2, q2, _⟩ := DataW.trod_int Try.underlying3 ((hf 2 _ rfl).trans e2)
    obtain ⟨u3, q3, _⟩ := DataW.trod_int Try.underlying3 ((hf 3 _ rfl).trans e3)
    simp [cl_int] at q0 q1 q2 q3
    exact ⟨u0, u1, u2, u3, by rw [q0, q1, q2, q3]⟩
set_option maxRecDepth 100000 in
theorem rights_came (h : DataW.trod enc Try.prog w base spare held fuel 42 cs = some y) : ∃ a b c : W64, cs = [.int .u64 (a.toNat : Int), .int .u64 (b.toNat : Int), .int .u64 (c.toNat : Int)] := by
  obtain ⟨xs, n, _, _, hl, hlen, hf⟩ := DataW.trod_struct Try.underlying42 h
  have hl' : cs.length = 3 := hl.trans cl_rights
  match cs, hl' with
  | [c0, c1, c2], _ =>
    have hx : ∀ i, i < 3 → ∃ x, xs[i]? = some x := fun i hi => ⟨_, List.getElem?_eq_getElem (by rw [hlen]; exact hi)⟩
    obtain ⟨x0, e0⟩ := hx 0 (by decide)
    obtain ⟨x1, e1⟩ := hx 1 (by decide)
    obtain ⟨x2, e2⟩ := hx 2 (by decide)
    obtain ⟨u0, q0, g0⟩ := DataW.trod_int Try.underlying40 ((hf 0 _ rfl).trans e0)
    obtain ⟨u1, q1, g1⟩ := DataW.trod_int Try.underlying40 ((hf 1 _ rfl).trans e1)
    obtain ⟨u2, q2, g2⟩ := DataW.trod_int Try.underlying40 ((hf 2 _ rfl).trans e2)
    simp [cl_u64] at q0 q1 q2
    obtain ⟨w0, rfl⟩ := u64_word g0.2
    obtain ⟨w1, rfl⟩ := u64_word g1.2
    obtain ⟨w2, rfl⟩ := u64_word g2.2
    exact ⟨w0, w1, w2, by rw [q0, q1, q2]⟩
set_option maxRecDepth 100000 in
theorem rule_came (h : DataW.trod enc Try.prog w base spare held fuel 44 cs = some y) : ∃ r : RV, cs = cells7 r := by
  obtain ⟨xs, n, _, _, hl, hlen, hf⟩ := DataW.trod_struct Try.underlying44 h
  have hl' : cs.length = 7 := hl.trans (by kernel_rfl)
  match cs, hl' with
  | [c0, c1, c2, c3, c4, c5, c6], _ =>
    have hx : ∀ i, i < 2 → ∃ x, xs[i]? = some x := fun i hi => ⟨_, List.getElem?_eq_getElem (by rw [hlen]; exact hi)⟩
    obtain ⟨x0, e0⟩ := hx 0 (by decide)
    obtain ⟨x1, e1⟩ := hx 1 (by decide)
    obtain ⟨a, b, c, d, q0⟩ := rect_came ((hf 0 _ rfl).trans e0)
    obtain ⟨u, v, z, q1⟩ := rights_came ((hf 1 _ rfl).trans e1)
    simp [cl_rect, cl_rights] at q0 q1
    obtain ⟨r0, r1, r2, r3⟩ := q0
    obtain ⟨r4, r5, r6⟩ := q1
    exact ⟨⟨a, b, c, d, u, v, z⟩, by rw [r0, r1, r2, r3, r4, r5, r6]; rfl⟩
def cells2 (p : Int × Int) : List Value := [.int .i64 p.1, .int .i64 p.2]
theorem cells2_len (r : Int × Int) : (cells2 r).length = 2 := rfl
set_option maxRecDepth 100000 in
theorem ref_came (h : DataW.trod enc Try.prog w base spare held fuel 52 cs = some y) : ∃ r : Int × Int, cs = cells2 r := by
  obtain ⟨xs, n, _, _, hl, hlen, hf⟩ := DataW.trod_struct Try.underlying52 h
  have hl' : cs.length = 2 := hl.trans (by kernel_rfl)
  match cs, hl' with
  | [c0, c1], _ =>
    have hx : ∀ i, i < 2 → ∃ x, xs[i]? = some x := fun i hi => ⟨_, List.getElem?_eq_getElem (by rw [hlen]; exact hi)⟩
    obtain ⟨x0, e0⟩ := hx 0 (by decide)
    obtain ⟨x1, e1⟩ := hx 1 (by decide)
    obtain ⟨u0, q0, _⟩ := DataW.trod_int Try.underlying3 ((hf 0 _ rfl).trans e0)
    obtain ⟨u1, q1, _⟩ := DataW.trod_int Try.underlying3 ((hf 1 _ rfl).trans e1)
    simp [cl_int] at q0 q1
    exact ⟨(u0, u1), by rw [q0, q1]; rfl⟩
end
end Go.Proofs.Ythgnhdfppmoooaa.Re
