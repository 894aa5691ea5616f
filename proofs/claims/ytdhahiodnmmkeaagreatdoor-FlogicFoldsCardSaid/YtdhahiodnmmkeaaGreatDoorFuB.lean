/- The reference's helpers for lists of values: a copy, cut short; equal lists. -/
import Derived.Test.YtdhahiodnmmkeaaGreatDoorFuA
import Derived.Deep.RegionLaw
import Derived.Lib.MinMax
import Derived.Deep.MidRow
namespace Go.Proofs.YtdhahiodnmmkeaaGreatDoor.Va
open Go Go.RowKit GM
set_option linter.unusedVariables false
set_option linter.unusedSimpArgs false
theorem cellsV_one (v : V3) : ∀ u ∈ cellsV v, u.oneCell' = true := by
  intro u hu; simp [cellsV] at hu; rcases hu with rfl | rfl | rfl <;> rfl
theorem infoV : (Tryz.prog.info? 26).map (fun i => (i.zero, i.size, i.bytes)) = some (some (.agg #[.int .u8 0, .int .i64 0, .string ByteArray.empty]), 3, 32) := by kernel_rfl
theorem zeroV : (Value.agg #[.int .u8 0, .int .i64 0, .string ByteArray.empty]).cells.size = 3 := rfl
abbrev OwnV (B : Nat) (w : World) (v : Value) (L : List V3) : Prop := OwnOf 26 cellsV 3 B w v L
/-- Writing one cell of an element of a list of the call's own. -/
theorem flat_set {α : Type} {c : α → List Value} {n : Nat} (hn : ∀ x, (c x).length = n) (x : α) (u : Value) (j : Nat) (hj : j < n) : ∀ (L : List α) (k : Nat) (hk : k < L.length), c x = (c L[k]).set j u → (L.flatMap c).set (k * n + j) u = (L.set k x).flatMap c
  | [], k, hk, _ => by simp at hk
  | y :: L, 0, hk, h => by
    rw [List.set_cons_zero, List.flatMap_cons, List.flatMap_cons, h, List.set_append_left _ _ (by rw [hn]; omega), Nat.zero_mul, Nat.zero_add]
    rfl
  | y :: L, k + 1, hk, h => by
    have e : (k + 1) * n + j = n + (k * n + j) := by rw [Nat.add_mul]; omega
    rw [List.set_cons_succ, List.flatMap_cons, List.flatMap_cons, e, List.set_append_right _ _ (by rw [hn]; omega), hn, Nat.add_sub_cancel_left, flat_set hn x u j hj L k (by simpa using hk) h]
theorem OwnOf.setAt {α : Type} {c : α → List Value} {n : Nat} {e : TypeId} (hn : ∀ x, (c x).length = n) {B : Nat} {w : World} {g m cp : Nat} {L : List α} (h : OwnOf e c n B w (.slice (some ⟨g, 0, none⟩) m cp) L) {k j : Nat} (hk : k < L.length) (hj : j < n) {x : α} {u : Value} (hx : c x = (c L[k]).set j u) :
    OwnOf e c n B (w.setCell ⟨g, k * n + j, none⟩ u) (.slice (some ⟨g, 0, none⟩) m cp) (L.set k x) := by
  unfold OwnOf at *
  obtain ⟨h1, h2⟩ := h
  rw [List.length_set, ← flat_set hn x u j hj L k hk hx]
  refine ⟨by rw [List.length_set]; exact h1, ?_⟩
  rcases h2 with ⟨hv, _⟩ | ⟨g', cap, cur, hv, hg, hh, hc, hcm, hsz, hx⟩
  · cases hv
  · have hv' := hv
    injection hv' with h3 h4 h5
    injection h3 with h3
    injection h3 with h3
    subst h3
    refine .inr ⟨g, cap, cur.setIfInBounds (k * n + j) u, hv, hg, ?_, hc, hcm, by simpa using hsz, ?_⟩
    · simp [World.setCell, Array.getElem?_modify, hh]
    · rw [Array.toList_setIfInBounds, List.take_set, hx]
theorem IsOf.head {α : Type} {c : α → List Value} {n : Nat} {w : World} {a : Option Addr} {m : Nat} {L : List α} (h : IsOf c n w a m L) (k : Nat) : IsOf c n w a (min m k) (L.take k) := by
  refine ⟨by rw [List.length_take, h.1, Nat.min_comm], fun h0 => ?_⟩
  obtain ⟨b, off, ha, hr⟩ := h.2 (by omega)
  refine ⟨b, off, ha, hr.1, fun i hi j u hu => ?_⟩
  rw [List.length_take] at hi
  rw [List.getElem_take] at hu
  exact hr.2 i (by omega) j u hu
end Go.Proofs.YtdhahiodnmmkeaaGreatDoor.Va
