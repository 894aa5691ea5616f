/- Grants that came in. -/
import Derived.Test.YtndijajaddkbhaaCame
import Derived.Test.YtndijajaddkbhaaGraA
namespace Go.Proofs.Ytndijajaddkbhaa.Re
open Go.RowKit AM
section
variable {H : Type} {enc : TypeId × Value → H} {w : World} {base : Nat} {spare : Nat → Bool} {held : Bool} {fuel : Nat} {cs : List Value} {y : DataW H × List MemPlace}
theorem cl_u8 : Try.prog.cellsOf 5 = 1 := by kernel_rfl
theorem cl_bool : Try.prog.cellsOf 4 = 1 := by kernel_rfl
theorem u8_word {n : Int} (h : (Lit.int .u8 n).wf = true) : ∃ x : BitVec 8, n = (x.toNat : Int) := by
  rw [Lit.wf_int_iff] at h
  simp [IntKind.min, IntKind.max, IntKind.signed, IntKind.bits] at h
  refine ⟨BitVec.ofInt 8 n, ?_⟩
  rw [BitVec.toNat_ofInt]
  omega
set_option maxRecDepth 100000 in
theorem grant_came (h : DataW.trod enc Try.prog w base spare held fuel 68 cs = some y) : ∃ r : GV, cs = cells8 r := by
  obtain ⟨xs, n, _, _, hl, hlen, hf⟩ := DataW.trod_struct Try.underlying68 h
  have hl' : cs.length = 8 := hl.trans (by kernel_rfl)
  match cs, hl' with
  | [c0, c1, c2, c3, c4, c5, c6, c7], _ =>
    have hx : ∀ i, i < 5 → ∃ x, xs[i]? = some x := fun i hi => ⟨_, List.getElem?_eq_getElem (by rw [hlen]; exact hi)⟩
    obtain ⟨x0, e0⟩ := hx 0 (by decide)
    obtain ⟨x1, e1⟩ := hx 1 (by decide)
    obtain ⟨x2, e2⟩ := hx 2 (by decide)
    obtain ⟨x3, e3⟩ := hx 3 (by decide)
    obtain ⟨x4, e4⟩ := hx 4 (by decide)
    obtain ⟨a, b, c, d, q0⟩ := rect_came ((hf 0 _ rfl).trans e0)
    obtain ⟨u1, q1, g1⟩ := DataW.trod_int Try.underlying5 ((hf 1 _ rfl).trans e1)
    obtain ⟨u2, q2, g2⟩ := DataW.trod_int Try.underlying31 ((hf 2 _ rfl).trans e2)
    obtain ⟨u3, q3, _⟩ := DataW.trod_int Try.underlying3 ((hf 3 _ rfl).trans e3)
    obtain ⟨u4, q4, _⟩ := DataW.trod_bool Try.underlying4 ((hf 4 _ rfl).trans e4)
    simp [cl_rect, cl_u8, cl_u64, cl_int, cl_bool] at q0 q1 q2 q3 q4
    obtain ⟨f, rfl⟩ := u8_word g1.2
    obtain ⟨w2, rfl⟩ := u64_word g2.2
    obtain ⟨r0, r1, r2, r3⟩ := q0
    exact ⟨⟨a, b, c, d, f, w2, u3, u4⟩, by rw [r0, r1, r2, r3, q1, q2, q3, q4]; rfl⟩
end
end Go.Proofs.Ytndijajaddkbhaa.Re
