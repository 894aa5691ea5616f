/- flogic: what the three folds give of valid values; of bools. -/
import Derived.Test.YtdhahiodnmmkeaaGreatDoorLgI
namespace Go.Proofs.YtdhahiodnmmkeaaGreatDoor.Va
open Go Go.RowKit GM
set_option linter.unusedVariables false
set_option linter.unusedSimpArgs false
def cv2 (v : V3) : V3 := cvR 2 v.1 v.2.1 v.2.2
/-- The first that cannot be converted. -/
def wantF (acc v : V3) : V3 := if (cv2 v).1 = 4 ∧ acc.1 = 0 then cv2 v else acc
def wantL (M : List V3) : V3 := M.foldl wantF blV
theorem wantL_snoc (M : List V3) (v : V3) : wantL (M ++ [v]) = wantF (wantL M) v := by unfold wantL; rw [List.foldl_append]; rfl
theorem want_stop : ∀ (L : List V3) (acc : V3), acc.1 ≠ 0 → L.foldl wantF acc = acc
  | [], _, _ => rfl
  | v :: L, acc, h => by
    rw [List.foldl_cons, show wantF acc v = acc from if_neg (fun hh => h hh.2)]
    exact want_stop L acc h
theorem lgC_want {fn : Nat} (hf : fn = 21 ∨ fn = 22 ∨ fn = 23) : ∀ (L : List V3) (i : Nat) (P : List V3), lgC fn i L P = if (L.foldl wantF blV).1 = 4 then .inr (L.foldl wantF blV) else .inl (P ++ L.map cv2)
  | [], i, P => by
    show Sum.inl P = _
    rw [List.foldl_nil, if_neg (by decide), List.map_nil, List.append_nil]
  | v :: L, i, P => by
    have hc : cvl fn i v = cv2 v := by
      unfold cvl
      rw [if_pos (Or.inl (by omega))]; rfl
    show (if (cvl fn i v).1 = 4 then Sum.inr (cvl fn i v) else lgC fn (i + 1) L (P ++ [cvl fn i v])) = _
    rw [hc, List.foldl_cons]
    by_cases h : (cv2 v).1 = 4
    · have e : wantF blV v = cv2 v := if_pos ⟨h, rfl⟩
      rw [e, want_stop _ _ (by omega), if_pos h, if_pos h]
    · have e : wantF blV v = blV := if_neg (fun hh => h hh.1)
      rw [e, if_neg h, lgC_want hf L, List.map_cons, List.append_assoc]; rfl
theorem lgV_kind {fn : Nat} (hf : fn = 21 ∨ fn = 22 ∨ fn = 23) (M : List V3) : (lgV fn M).1 = 2 := by
  rcases hf with rfl | rfl | rfl <;> rfl
theorem okL_of {M : List V3} (h : ∀ v ∈ M, vE v.1 v.2.1 v.2.2.data.toList = 0) : okL M = true := by
  unfold okL
  rw [List.all_eq_true]
  intro v hv
  rw [h v hv]; rfl
theorem arV_fold {fn : Nat} (hf : fn = 21 ∨ fn = 22 ∨ fn = 23) : arV fn = (1, 16) := by
  rcases hf with rfl | rfl | rfl <;> rfl
theorem callL_want {fn : Nat} (hf : fn = 21 ∨ fn = 22 ∨ fn = 23) {M : List V3} (hM : ∀ v ∈ M, vE v.1 v.2.1 v.2.2.data.toList = 0) (h1 : 1 ≤ M.length) (h2 : M.length ≤ 16) :
    ∃ r : V3, callL fn M = (r, 0) ∧ ((wantL M).1 = 4 → r = wantL M) ∧ ((wantL M).1 ≠ 4 → r.1 = 2) := by
  have e := callL_conv (fn := fn) (L := M) (by omega) (by rw [arV_fold hf]; omega) (okL_of hM) (by omega) (by omega)
  rw [lgC_want hf] at e
  refine ⟨_, e, fun h => ?_, fun h => ?_⟩
  · have h' : (List.foldl wantF blV M).1 = 4 := h
    rw [if_pos h']; rfl
  · have h' : ¬ (List.foldl wantF blV M).1 = 4 := h
    rw [if_neg h']; exact lgV_kind hf _
theorem callL_zero {fn : Nat} (hf : fn = 21 ∨ fn = 22 ∨ fn = 23) : callL fn [] = (blV, 11) := by
  rcases hf with rfl | rfl | rfl <;> rfl
theorem wantF_four (acc v : V3) : (wantF acc v).1 = 4 ∨ wantF acc v = acc := by
  unfold wantF
  split
  · next h => exact .inl h.1
  · exact .inr rfl
theorem wantL_kind (M : List V3) : (wantL M).1 = 4 ∨ wantL M = blV := by
  unfold wantL
  have key : ∀ (L : List V3) (acc : V3), (acc.1 = 4 ∨ acc = blV) → (L.foldl wantF acc).1 = 4 ∨ L.foldl wantF acc = blV := by
    intro L
    induction L with
    | nil => exact fun _ h => h
    | cons v L ih =>
      intro acc h
      rw [List.foldl_cons]
      refine ih _ ?_
      rcases wantF_four acc v with h1 | h1
      · exact .inl h1
      · rw [h1]; exact h
  exact key M blV (.inr rfl)
end Go.Proofs.YtdhahiodnmmkeaaGreatDoor.Va
