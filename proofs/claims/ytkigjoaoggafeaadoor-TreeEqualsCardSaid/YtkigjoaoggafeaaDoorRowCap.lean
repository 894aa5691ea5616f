/- Slices of slices that came in. -/
import Derived.Test.YtkigjoaoggafeaaDoorRow
namespace Go.Proofs.YtkigjoaoggafeaaDoor
open Go Go.RowKit Go.Deep
section
variable {α : Type} {c : α → List Value} {n : Nat} {P : Program} {H : Type} {enc : TypeId × Value → H} {w : World} {base : Nat} {held : Bool}
theorem came_cap {t e : TypeId} {fuel : Nat} {A : Option Addr} {len cap : Nat} {x : DataW H × List MemPlace} (ht : P.underlying t = some (.slice e))
    (h : DataW.trod enc P w base (fun _ => true) held fuel t [.slice A len cap] = some x) : len ≤ cap := by
  rcases open_slice ht h with ⟨hcs, _⟩ | ⟨ad, l, cp, m, k, D, Pl, hcs, _, hl, hm, hmm, hxd, hi⟩
  · simp at hcs
    omega
  · simp at hcs
    omega
theorem IsOf.cut {w : World} {A : Option Addr} {len k cap : Nat} {L : List α} (h : IsOf c n w A len L) (hk : k ≤ len) (hc : len ≤ cap) :
    IsOf c n w (if cap = k then A else A.map (·.add (k * n))) (len - k) (L.drop k) := by
  refine ⟨by rw [List.length_drop, h.1], fun hn => ?_⟩
  obtain ⟨b, off, rfl, hr⟩ := h.2 (by omega)
  rw [if_neg (by omega)]
  exact ⟨b, off + k * n, by simp [Addr.add], hr.drop k⟩
theorem RowOf.take {w : World} {b off : Nat} {L : List α} (h : RowOf c n w b off L) (k : Nat) : RowOf c n w b off (L.take k) :=
  ⟨h.1, fun i hi j u hu => by
    rw [List.getElem_take] at hu
    exact h.2 i (by rw [List.length_take] at hi; omega) j u hu⟩
theorem IsOf.take {w : World} {A : Option Addr} {len k : Nat} {L : List α} (h : IsOf c n w A len L) (hk : k ≤ len) : IsOf c n w A k (L.take k) := by
  refine ⟨by rw [List.length_take, h.1]; omega, fun hn => ?_⟩
  obtain ⟨b, off, rfl, hr⟩ := h.2 (by omega)
  exact ⟨b, off, rfl, hr.take k⟩
end
end Go.Proofs.YtkigjoaoggafeaaDoor
