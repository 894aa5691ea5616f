/- The arithmetic of conversions there and back. -/
import Derived.Test.YteoepgdfhllffaaDoorValH
namespace Go.Proofs.YteoepgdfhllffaaDoor.Va
open Go Go.RowKit GM
theorem tr_plain : ∀ (l : List UInt8) (e : Bool), (∀ c ∈ l, c ≠ 32) → tr e false l = l := by
  intro l
  induction l with
  | nil => intro e _; rfl
  | cons c l ih =>
    intro e h
    have h1 := h c (List.mem_cons_self)
    unfold tr
    rw [if_neg h1]
    simp [ih true fun d hd => h d (List.mem_cons_of_mem _ hd)]
theorem dg_ne {c : UInt8} (h : Tx.isDg c = true) : c ≠ 32 := fun e => by subst e; exact absurd h (by decide)
theorem fmt_ne (n : Int) : ∀ c ∈ Tx.fmtL n, c ≠ 32 := by
  intro c hc
  unfold Tx.fmtL at hc
  rcases List.mem_append.1 hc with h | h
  · split at h
    · have : c = 45 := by simpa using h
      subst this; decide
    · cases h
  · rcases List.mem_append.1 h with h | h
    · exact dg_ne (Tx.dd_dg _ c h)
    · unfold Tx.fracL at h
      split at h
      · cases h
      · rcases List.mem_cons.1 h with h | h
        · subst h; decide
        · exact dg_ne (Tx.trimZ_dg (Tx.frD_dg _) c h)
theorem trim_fmt (n : Int) : trim (Tx.fmtL n) = Tx.fmtL n := tr_plain _ false (fmt_ne n)
/-- The text of a number. -/
theorem cv3_num {n : Int} (h : n ≠ leastI) : cvR 3 1 n ⟨#[]⟩ = (3, 0, ⟨(Tx.fmtL n).toArray⟩) := by
  unfold cvR
  rw [if_pos (show vE 1 n (⟨#[]⟩ : ByteArray).data.toList = 0 from vE_num h), if_neg (by omega), if_neg (by omega), if_neg (by omega), if_pos rfl]
theorem vE_text {l : List UInt8} (h : chk l = 0) : vE 3 0 l = 0 := by unfold vE vldV; simp [h]
/-- A number through its text, and back. -/
theorem cv_back {n : Int} (hi : InI n) (h : n ≠ leastI) : cvR 1 3 0 ⟨(Tx.fmtL n).toArray⟩ = (1, n, ⟨#[]⟩) := by
  have hv : vE 3 0 (⟨(Tx.fmtL n).toArray⟩ : ByteArray).data.toList = 0 := by
    show vE 3 0 (Tx.fmtL n).toArray.toList = 0
    rw [List.toList_toArray]; exact vE_text (chk_fmt hi)
  have hn : nbR 3 0 ⟨(Tx.fmtL n).toArray⟩ = (1, n) := by
    have hp := Tx.par_fmt (a := n) (by unfold Tx.mostI InI leastI at *; omega) (by unfold Tx.mostI InI leastI at *; omega)
    unfold nbR
    rw [if_pos rfl]
    show (if Tx.parE (trim (Tx.fmtL n).toArray.toList) = 0 then _ else _) = _
    rw [List.toList_toArray, trim_fmt, if_pos hp.2]
    rw [hp.1]
    rcases mk_sort n with ⟨a, _⟩ | ⟨a, b, _⟩
    · unfold mkK at a; rw [if_neg h] at a; cases a
    · rw [a, b]
  unfold cvR
  rw [if_pos hv, if_neg (by omega), if_pos rfl, hn]
/-- A bool through its number, and back; through its text, and back. -/
theorem cv1_bool {b : Int} (h : b = 0 ∨ b = 1) : cvR 1 2 b ⟨#[]⟩ = (1, b * 10000, ⟨#[]⟩) := by
  rcases h with rfl | rfl <;> decide
theorem cv2_back {b : Int} (h : b = 0 ∨ b = 1) : cvR 2 1 (b * 10000) ⟨#[]⟩ = (2, b, ⟨#[]⟩) := by
  rcases h with rfl | rfl <;> decide
theorem cv3_true : cvR 3 2 1 ⟨#[]⟩ = (3, 0, ⟨#[84, 82, 85, 69]⟩) := by decide
theorem cv3_false : cvR 3 2 0 ⟨#[]⟩ = (3, 0, ⟨#[70, 65, 76, 83, 69]⟩) := by decide
theorem cv2_true : cvR 2 3 0 ⟨#[84, 82, 85, 69]⟩ = (2, 1, ⟨#[]⟩) := by decide
theorem cv2_false : cvR 2 3 0 ⟨#[70, 65, 76, 83, 69]⟩ = (2, 0, ⟨#[]⟩) := by decide
end Go.Proofs.YteoepgdfhllffaaDoor.Va
