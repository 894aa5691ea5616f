/- Ranges that came in. -/
import Derived.Test.YtelnffamkkkpaaaDoorRectO
import Derived.ChangeArms
import Derived.DataShut
namespace Go.Proofs.YtelnffamkkkpaaaDoor
open Go.RowKit AM
section
variable {H : Type} {enc : TypeId × Value → H} {w : World} {base : Nat} {spare : Nat → Bool} {held : Bool} {fuel : Nat} {cs : List Value} {y : DataW H × List MemPlace}
theorem cl_int : Tryd.prog.cellsOf 3 = 1 := by kernel_rfl
theorem cl_rect : Tryd.prog.cellsOf 23 = 4 := by kernel_rfl
set_option maxRecDepth 100000 in
theorem rect_came4 (h : DataW.trod enc Tryd.prog w base spare held fuel 23 cs = some y) : ∃ r : R4, cs = cells4 r := by
  obtain ⟨xs, n, _, _, hl, hlen, hf⟩ := DataW.trod_struct Tryd.underlying23 h
  have hl' : cs.length = 4 := hl.trans cl_rect
  match cs, hl' with
  | [c0, c1, c2, c3], _ =>
    have hx : ∀ i, i < 4 → ∃ x, xs[i]? = some x := fun i hi => ⟨_, List.getElem?_eq_getElem (by rw [hlen]; exact hi)⟩
    obtain ⟨x0, e0⟩ := hx 0 (by decide)
    obtain ⟨x1, e1⟩ := hx 1 (by decide)
    obtain ⟨x2, e2⟩ := hx 2 (by decide)
    obtain ⟨x3, e3⟩ := hx 3 (by decide)
    obtain ⟨u0, q0, _⟩ := DataW.trod_int Tryd.underlying3 ((hf 0 _ rfl).trans e0)
    obtain ⟨u1, q1, _⟩ := DataW.trod_int Tryd.underlying3 ((hf 1 _ rfl).trans e1)
    obtain ⟨u2, q2, _⟩ := DataW.trod_int Tryd.underlying3 ((hf 2 _ rfl).trans e2)
    obtain ⟨u3, q3, _⟩ := DataW.trod_int Tryd.underlying3 ((hf 3 _ rfl).trans e3)
    simp [cl_int] at q0 q1 q2 q3
    exact ⟨⟨u0, u1, u2, u3⟩, by rw [q0, q1, q2, q3]; rfl⟩
end
end Go.Proofs.YtelnffamkkkpaaaDoor
