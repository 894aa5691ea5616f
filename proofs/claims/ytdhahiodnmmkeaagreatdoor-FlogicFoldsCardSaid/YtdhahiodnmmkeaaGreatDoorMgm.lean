/- Merged: LgH LgI FeM. -/
import Derived.Test.YtdhahiodnmmkeaaGreatDoorMgl
/- flogic.Call in full (reference). -/
namespace Go.Proofs.YtdhahiodnmmkeaaGreatDoor.Va
open Go Go.RowKit GM
set_option linter.unusedVariables false
set_option linter.unusedSimpArgs false
theorem plcall_any (fn : Nat) (a : Option Addr) (n cap : Nat) (L : List V3) (w : World) (hL : IsV w a n L) (hn : n ≤ 1000) (hv : ∀ v ∈ L, v.2.2.size ≤ 2000 ∧ InI v.2.1) (hT : Tb w) :
    Calls Tryz.prog 22 #[.int .u8 (fn : Int), .slice a n cap] w fun e w' => e = .returned (.tuple #[vOf (callL fn L).1, .int .i64 (callL fn L).2]) ∧ Below w.heap.size w w' := by
  have hnl := hL.1
  by_cases h1 : fn < 20 ∨ 30 < fn
  · have e : callL fn L = (blV, 10) := if_pos h1
    rw [e]
    exact lcall_name fn h1 a n cap w
  by_cases h2 : L.length < (arV fn).1 ∨ (arV fn).2 < L.length
  · have e : callL fn L = (blV, 11) := by unfold callL; rw [if_neg h1, if_pos h2]
    rw [e]
    exact lcall_count fn (by omega) (by omega) a n cap hn (by omega) w
  by_cases h3 : okL L = false
  · have e : callL fn L = (blV, 2) := by unfold callL; rw [if_neg h1, if_neg h2, if_pos h3]
    rw [e]
    exact lcall_arg fn (by omega) (by omega) a n cap L w hL hn hv (by omega) h3 rfl
  have h4 : okL L = true := by cases h : okL L <;> simp_all
  by_cases h5 : fn = 25
  · subst h5
    have ha : ¬ (L.length < 2 ∨ 2 < L.length) := h2
    have e : callL 25 L = (ieV L, 0) := by unfold callL; rw [if_neg h1, if_neg h2, if_neg h3]; rfl
    rw [e]
    exact lcall_25 a n cap L w hL (by omega) hv h4
  by_cases h6 : fn = 26
  · subst h6
    have ha : ¬ (L.length < 1 ∨ 1 < L.length) := h2
    have e : callL 26 L = (isErV L, 0) := by unfold callL; rw [if_neg h1, if_neg h2, if_neg h3]; rfl
    rw [e]
    exact lcall_26 a n cap L w hL (by omega) hv h4
  rw [callL_conv h1 h2 h4 h5 h6]
  have hlo : (arV fn).1 ≤ n := by omega
  have hhi : n ≤ (arV fn).2 := by omega
  exact lcall_gen fn (by omega) a n cap L w hL hlo hhi hv h4 hT
end Go.Proofs.YtdhahiodnmmkeaaGreatDoor.Va
/- The examples of the chapter of conditions. -/
namespace Go.Proofs.YtdhahiodnmmkeaaGreatDoor.Va
open Go Go.RowKit GM Sx
set_option linter.unusedVariables false
set_option maxRecDepth 100000 in
theorem awake15 (w : World) (h : Tb w) : Calls Tryz.prog 17 #[] w fun e w' => e = .returned (.bool true) ∧ Below w.heap.size w w' :=
  va_call (facts := []) (tab := []) (σ := symOf []) (symOf_one rfl) h foks_nil toks_nil (args := []) (v := .bool true) (by kernel_rfl) rfl rfl
end Go.Proofs.YtdhahiodnmmkeaaGreatDoor.Va
/- flogic: what the three folds give of valid values; of bools. -/
namespace Go.Proofs.YtdhahiodnmmkeaaGreatDoor.Va
open Go Go.RowKit GM
set_option linter.unusedVariables false
set_option linter.unusedSimpArgs false
def cv2 (v : V3) : V3 := cvR 2 v.1 v.2.1 v.2.2
/-- The first that cannot be converted. -/
def wantF (acc v : V3) : V3 := if (cv2 v).1 = 4 ∧ acc.1 = 0 then cv2 v else acc
def wantL (M : List V3) : V3 := M.foldl wantF blV
theorem want_stop : ∀ (L : List V3) (acc : V3), acc.1 ≠ 0 → L.foldl wantF acc = acc
  | [], _, _ => rfl
  | v :: L, acc, h => by
    rw [List.foldl_cons, show wantF acc v = acc from if_neg (fun hh => h hh.2)]
    exact want_stop L acc h
theorem lgC_want {fn : Nat} (hf : fn = 21 ∨ fn = 22 ∨ fn = 23) : ∀ (L : List V3) (i : Nat) (P : List V3), lgC fn i L P = if (L.foldl wantF blV).1 = 4 then .inr (L.foldl wantF blV) else .inl (P ++ L.map cv2)
  | [], i, P => by
    show Sum.inl P = _
    rw [List.foldl_nil, if_neg (by decide), List.map_nil, List.append_nil]
  | v :: L, i, P => by
    have hc : cvl fn i v = cv2 v := by
      unfold cvl
      rw [if_pos (Or.inl (by omega))]; rfl
    show (if (cvl fn i v).1 = 4 then Sum.inr (cvl fn i v) else lgC fn (i + 1) L (P ++ [cvl fn i v])) = _
    rw [hc, List.foldl_cons]
    by_cases h : (cv2 v).1 = 4
    · have e : wantF blV v = cv2 v := if_pos ⟨h, rfl⟩
      rw [e, want_stop _ _ (by omega), if_pos h, if_pos h]
    · have e : wantF blV v = blV := if_neg (fun hh => h hh.1)
      rw [e, if_neg h, lgC_want hf L, List.map_cons, List.append_assoc]; rfl
theorem okL_of {M : List V3} (h : ∀ v ∈ M, vE v.1 v.2.1 v.2.2.data.toList = 0) : okL M = true := by
  unfold okL
  rw [List.all_eq_true]
  intro v hv
  rw [h v hv]; rfl
theorem arV_fold {fn : Nat} (hf : fn = 21 ∨ fn = 22 ∨ fn = 23) : arV fn = (1, 16) := by
  rcases hf with rfl | rfl | rfl <;> rfl
/-- Bools as values. -/
theorem cv2_tr (b : Bool) : cv2 (trV b) = trV b := by cases b <;> rfl
theorem vE_tr (b : Bool) : vE (trV b).1 (trV b).2.1 (trV b).2.2.data.toList = 0 := by cases b <;> rfl
theorem hB_tr (b : Bool) : hB (trV b) = b := by cases b <;> rfl
def trL (l : List Bool) : List V3 := l.map trV
theorem trL_ok (l : List Bool) : ∀ v ∈ trL l, vE v.1 v.2.1 v.2.2.data.toList = 0 := fun v hv => by
  obtain ⟨b, _, rfl⟩ := List.mem_map.1 hv
  exact vE_tr b
theorem trL_sz (l : List Bool) : ∀ v ∈ trL l, v.2.2.size ≤ 2000 ∧ InI v.2.1 := fun v hv => by
  obtain ⟨b, _, rfl⟩ := List.mem_map.1 hv
  cases b <;> exact ⟨by decide, by unfold InI; decide⟩
theorem want_tr (l : List Bool) : wantL (trL l) = blV := by
  unfold wantL trL
  induction l with
  | nil => rfl
  | cons b l ih =>
    rw [List.map_cons, List.foldl_cons, show wantF blV (trV b) = blV by cases b <;> rfl]
    exact ih
theorem map_tr (l : List Bool) : (trL l).map cv2 = trL l := by
  unfold trL
  rw [List.map_map]
  exact List.map_congr_left fun b _ => cv2_tr b
theorem call_tr {fn : Nat} (hf : fn = 21 ∨ fn = 22 ∨ fn = 23) (l : List Bool) (h1 : 1 ≤ l.length) (h2 : l.length ≤ 16) : callL fn (trL l) = (lgV fn (trL l), 0) := by
  have e := callL_conv (fn := fn) (L := trL l) (by omega) (by rw [arV_fold hf, show (trL l).length = l.length from List.length_map ..]; omega) (okL_of (trL_ok l)) (by omega) (by omega)
  rw [lgC_want hf, if_neg (by rw [show List.foldl wantF blV (trL l) = wantL (trL l) from rfl, want_tr]; decide), map_tr] at e
  exact e
theorem all_tr (l : List Bool) : lgV 21 (trL l) = trV (l.all id) := by
  show trV ((l.map trV).all hB) = _
  rw [List.all_map, show hB ∘ trV = id from funext hB_tr]
theorem any_tr (l : List Bool) : lgV 22 (trL l) = trV (l.any id) := by
  show trV ((l.map trV).any hB) = _
  rw [List.any_map, show hB ∘ trV = id from funext hB_tr]
theorem xor_tr (l : List Bool) : lgV 23 (trL l) = trV (decide (l.countP id % 2 = 1)) := by
  show trV (decide ((l.map trV).countP hB % 2 = 1)) = _
  rw [List.countP_map, show hB ∘ trV = id from funext hB_tr]
theorem not_tr (b : Bool) : callL 24 [trV b] = (trV (!b), 0) := by cases b <;> rfl
theorem all_count (l : List Bool) : l.all id = decide (l.countP id = l.length) := by
  rw [Bool.eq_iff_iff, List.all_eq_true, decide_eq_true_iff, List.countP_eq_length]
theorem any_count (l : List Bool) : l.any id = decide (0 < l.countP id) := by
  rw [Bool.eq_iff_iff, List.any_eq_true, decide_eq_true_iff, List.countP_pos_iff]
theorem not_any (l : List Bool) : (l.map (!·)).any id = !(l.all id) := by
  induction l with
  | nil => rfl
  | cons b l ih => rw [List.map_cons, List.any_cons, List.all_cons, ih]; cases b <;> rfl
theorem not_all (l : List Bool) : (l.map (!·)).all id = !(l.any id) := by
  induction l with
  | nil => rfl
  | cons b l ih => rw [List.map_cons, List.all_cons, List.any_cons, ih]; cases b <;> rfl
/-- A list that is turned round. -/
def rotL (l : List Bool) (t : Nat) : List Bool := l.drop t ++ l.take t
theorem rotL_len (l : List Bool) (t : Nat) : (rotL l t).length = l.length := by
  unfold rotL
  rw [List.length_append, List.length_drop, List.length_take]; omega
theorem rotL_at {l : List Bool} {t i : Nat} (ht : t < l.length) (hi : i < l.length) (h : (i + t) % l.length < l.length) : (rotL l t)[i]? = some (l[(i + t) % l.length]) := by
  unfold rotL
  by_cases h1 : i < l.length - t
  · rw [List.getElem?_append_left (by rw [List.length_drop]; exact h1), List.getElem?_drop, ← List.getElem?_eq_getElem h]
    congr 1
    rw [Nat.mod_eq_of_lt (by omega)]; omega
  · rw [List.getElem?_append_right (by rw [List.length_drop]; omega), List.length_drop, List.getElem?_take_of_lt (by omega), ← List.getElem?_eq_getElem h]
    congr 1
    rw [Nat.mod_eq_sub_mod (by omega), Nat.mod_eq_of_lt (by omega)]; omega
theorem rot_all (l : List Bool) (t : Nat) : (rotL l t).all id = l.all id := by
  unfold rotL
  rw [List.all_append, Bool.and_comm, ← List.all_append, List.take_append_drop]
theorem rot_any (l : List Bool) (t : Nat) : (rotL l t).any id = l.any id := by
  unfold rotL
  rw [List.any_append, Bool.or_comm, ← List.any_append, List.take_append_drop]
theorem rot_count (l : List Bool) (t : Nat) : (rotL l t).countP id = l.countP id := by
  unfold rotL
  rw [List.countP_append, Nat.add_comm, ← List.countP_append, List.take_append_drop]
end Go.Proofs.YtdhahiodnmmkeaaGreatDoor.Va
