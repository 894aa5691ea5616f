/- The arithmetic of what converts: kinds, and what a second conversion gives. -/
import Derived.Test.YteoepgdfhllffaaDoorValG
import Derived.Test.YteoepgdfhllffaaDoorTxtG
namespace Go.Proofs.YteoepgdfhllffaaDoor.Va
open Go Go.RowKit GM
theorem mk_sort (n : Int) : (mkK n = 4 ∧ mkN n = 3) ∨ (mkK n = 1 ∧ mkN n = n ∧ n ≠ leastI) := by
  unfold mkK mkN
  by_cases h : n = leastI
  · exact .inl ⟨if_pos h, if_pos h⟩
  · exact .inr ⟨if_neg h, if_neg h, h⟩
theorem nb_sort (k : Nat) (n : Int) (s : ByteArray) : ((nbR k n s).1 = 4 ∧ ((nbR k n s).2 = 3 ∨ (nbR k n s).2 = 2)) ∨ ((nbR k n s).1 = 1 ∧ (nbR k n s).2 ≠ leastI) := by
  unfold nbR
  split
  · split
    · rcases mk_sort (Tx.parV (trim s.data.toList)) with ⟨a, b⟩ | ⟨a, b, c⟩
      · exact .inl ⟨a, .inl b⟩
      · exact .inr ⟨a, by rw [b]; exact c⟩
    · split
      · exact .inl ⟨rfl, .inl rfl⟩
      · exact .inl ⟨rfl, .inr rfl⟩
  · rcases mk_sort (n * 10000) with ⟨a, b⟩ | ⟨a, b, c⟩
    · exact .inl ⟨a, .inl b⟩
    · exact .inr ⟨a, by rw [b]; exact c⟩
theorem tr_sort (k : Nat) (n : Int) (s : ByteArray) : trR k n s = (4, 2) ∨ trR k n s = (2, 1) ∨ trR k n s = (2, 0) := by
  unfold trR
  split
  · split
    · exact .inr (.inl rfl)
    · split
      · exact .inr (.inr rfl)
      · exact .inl rfl
  · split
    · exact .inr (.inr rfl)
    · exact .inr (.inl rfl)
theorem vE_err {n : Int} (h : 1 ≤ n ∧ n ≤ 6) : vE 4 n [] = 0 := by unfold vE vldV; simp [h]
theorem vE_num {n : Int} (h : n ≠ leastI) : vE 1 n [] = 0 := by unfold vE vldV; simp [h]
theorem vE_bool {n : Int} (h : n = 0 ∨ n = 1) : vE 2 n [] = 0 := by unfold vE vldV; simp [h]
/-- A number, or an error. -/
theorem cv1_ok (k : Nat) (n : Int) (s : ByteArray) : vE (cvR 1 k n s).1 (cvR 1 k n s).2.1 (cvR 1 k n s).2.2.data.toList = 0 ∧ ((cvR 1 k n s).1 = 1 ∨ (cvR 1 k n s).1 = 4) := by
  unfold cvR
  split
  · rename_i h0
    split
    · rename_i h1; exact ⟨h0, h1⟩
    · rw [if_pos rfl]
      rcases nb_sort k n s with ⟨a, b⟩ | ⟨a, b⟩
      · refine ⟨?_, .inr a⟩
        show vE (nbR k n s).1 (nbR k n s).2 [] = 0
        rw [a]; exact vE_err (by omega)
      · refine ⟨?_, .inl a⟩
        show vE (nbR k n s).1 (nbR k n s).2 [] = 0
        rw [a]; exact vE_num b
  · exact ⟨vE_err (n := 2) (by omega), .inr rfl⟩
/-- A bool, or an error. -/
theorem cv2_ok (k : Nat) (n : Int) (s : ByteArray) : vE (cvR 2 k n s).1 (cvR 2 k n s).2.1 (cvR 2 k n s).2.2.data.toList = 0 ∧ ((cvR 2 k n s).1 = 2 ∨ (cvR 2 k n s).1 = 4) := by
  unfold cvR
  split
  · rename_i h0
    split
    · rename_i h1; exact ⟨h0, h1⟩
    · rw [if_neg (by omega), if_pos rfl]
      rcases tr_sort k n s with a | a | a <;> rw [a]
      · exact ⟨vE_err (n := 2) (by omega), .inr rfl⟩
      · exact ⟨vE_bool (.inr rfl), .inl rfl⟩
      · exact ⟨vE_bool (.inl rfl), .inl rfl⟩
  · exact ⟨vE_err (n := 2) (by omega), .inr rfl⟩
/-- A value of the kind, or an error, stays as it is. -/
theorem cv_same {kd k : Nat} {n : Int} {s : ByteArray} (h : vE k n s.data.toList = 0) (hk : k = kd ∨ k = 4) : cvR kd k n s = (k, n, s) := by
  unfold cvR; rw [if_pos h, if_pos hk]
theorem chk_fmt {n : Int} (hi : InI n) : chk (Tx.fmtL n) = 0 := by
  have hl := Tx.fmt_len n
  have hd : (Lib.decDigits (n.natAbs / 10000)).length ≤ 20 := Tx.dd_len (by unfold InI at hi; omega)
  have hf := Tx.frac_le (n.natAbs % 10000)
  have hlen : ¬ 256 < (Tx.fmtL n).length := by
    rw [hl]; split <;> omega
  have dg : ∀ c : UInt8, Tx.isDg c = true → 32 ≤ c.toNat ∧ c.toNat ≤ 126 := fun c h => by
    unfold Tx.isDg at h
    have := of_decide_eq_true h
    omega
  have hp : plain (Tx.fmtL n) = true := by
    unfold plain
    rw [List.all_eq_true]
    intro c hc
    have key : 32 ≤ c.toNat ∧ c.toNat ≤ 126 := by
      unfold Tx.fmtL at hc
      rcases List.mem_append.1 hc with h | h
      · split at h
        · have : c = 45 := by simpa using h
          subst this; decide
        · cases h
      · rcases List.mem_append.1 h with h | h
        · exact dg c (Tx.dd_dg _ c h)
        · unfold Tx.fracL at h
          split at h
          · cases h
          · rcases List.mem_cons.1 h with h | h
            · subst h; decide
            · exact dg c (Tx.trimZ_dg (Tx.frD_dg _) c h)
    simp [key.1, key.2]
  unfold chk
  rw [if_neg hlen, if_pos hp]
/-- A text, or an error. -/
theorem cv3_ok (k : Nat) (n : Int) (s : ByteArray) (hi : InI n) : vE (cvR 3 k n s).1 (cvR 3 k n s).2.1 (cvR 3 k n s).2.2.data.toList = 0 ∧ ((cvR 3 k n s).1 = 3 ∨ (cvR 3 k n s).1 = 4) := by
  have tx : ∀ l : List UInt8, chk l = 0 → vE 3 0 l = 0 := fun l h => by unfold vE vldV; simp [h]
  unfold cvR
  split
  · rename_i h0
    split
    · rename_i h1; exact ⟨h0, h1⟩
    · rw [if_neg (by omega), if_neg (by omega)]
      refine ⟨?_, .inl rfl⟩
      split
      · exact tx _ (by show chk (Tx.fmtL n).toArray.toList = 0; rw [List.toList_toArray]; exact chk_fmt hi)
      · split
        · split
          · exact tx _ (by decide)
          · exact tx _ (by decide)
        · exact tx _ (by decide)
  · exact ⟨vE_err (n := 2) (by omega), .inr rfl⟩
/-- An error stays what it is, whatever it is converted to. -/
theorem cv_error {kd : Nat} {n : Int} {s : ByteArray} (h : vE 4 n s.data.toList = 0) : cvR kd 4 n s = (4, n, s) := cv_same h (.inr rfl)
/-- A number through its text, and back. -/
theorem most_of {n : Int} (hi : InI n) (h : n ≠ leastI) : -9223372036854775807 ≤ n ∧ n ≤ 9223372036854775807 := by unfold InI leastI at *; omega
end Go.Proofs.YteoepgdfhllffaaDoor.Va
