/- Merged: ValB ValD ValE ValF ValG ValH ValI. -/
import Derived.Test.YtdanbabamcdebaaGreatDoorValC
import Derived.Test.YtdanbabamcdebaaGreatDoorGlyphD
import Derived.Test.YtdanbabamcdebaaGreatDoorTxtE
import Derived.Test.YtdanbabamcdebaaGreatDoorProg
import Derived.WalkKit
import Derived.WalkSpells
import Derived.RangeFuncBox
import Derived.Test.YtdanbabamcdebaaGreatDoorT1
/- The contracts of Fail, Make, Truth, and of the methods that convert. -/
namespace Go.Proofs.YtdanbabamcdebaaGreatDoor.Va
open Go Go.RowKit GM
def mkK (n : Int) : Nat := if n = leastI then 4 else 1
def mkN (n : Int) : Int := if n = leastI then 3 else n
def b2i (b : Bool) : Int := if b then 1 else 0
theorem truth_any (b : Bool) (w : World) : Calls Tryz.prog 119 #[.bool b] w fun e w' => e = .returned (.agg #[.int .u8 2, .int .i64 (b2i b), .string ⟨#[]⟩]) ∧ Below w.heap.size w w' := by
  cases b
  · have H : Hid (b2i false = 0) := rfl
    generalize b2i false = x at *
    go_enter Tryz.func119, Tryz.ntmps119
    go_wp2_with fail
    refine bodyPost_ret (v := .agg #[.int .u8 2, .int .i64 0, .string ⟨#[]⟩]) (by simp [results, Tryz.results119, go_sem]) rfl ⟨by rw [H.out], valloc _ _⟩
  · have H : Hid (b2i true = 1) := rfl
    generalize b2i true = x at *
    go_enter Tryz.func119, Tryz.ntmps119
    go_wp2_with fail
    refine bodyPost_ret (v := .agg #[.int .u8 2, .int .i64 1, .string ⟨#[]⟩]) (by simp [results, Tryz.results119, go_sem]) rfl ⟨by rw [H.out], valloc _ _⟩
end Go.Proofs.YtdanbabamcdebaaGreatDoor.Va
/- The contracts of the methods that convert: truth, number, text. -/
namespace Go.Proofs.YtdanbabamcdebaaGreatDoor.Va
open Go Go.RowKit GM
theorem tr_le (e p : Bool) (l : List UInt8) : (tr e p l).length ≤ l.length + (if p then 1 else 0) := by
  induction l generalizing e p with
  | nil => simp [tr]
  | cons c l ih =>
    have h1 : (tr true false l).length ≤ l.length := by simpa using ih true false
    have h2 : (tr e true l).length ≤ l.length + 1 := by simpa using ih e true
    clear ih
    unfold tr
    split
    · simp only [List.length_cons]; omega
    · cases e <;> cases p <;> simp <;> omega
theorem trim_le (l : List UInt8) : (trim l).length ≤ l.length := by
  have := tr_le false false l
  simpa [trim] using this
def trR (k : Nat) (n : Int) (s : ByteArray) : Nat × Int := if k = 3 then (if upS s = ⟨#[84, 82, 85, 69]⟩ then (2, 1) else if upS s = ⟨#[70, 65, 76, 83, 69]⟩ then (2, 0) else (4, 2)) else (2, if n = 0 then 0 else 1)
def nbR (k : Nat) (n : Int) (s : ByteArray) : Nat × Int := if k = 3 then (if Tx.parE (trim s.data.toList) = 0 then (mkK (Tx.parV (trim s.data.toList)), mkN (Tx.parV (trim s.data.toList))) else if Tx.parE (trim s.data.toList) = 3 then (4, 3) else (4, 2)) else (mkK (n * 10000), mkN (n * 10000))
end Go.Proofs.YtdanbabamcdebaaGreatDoor.Va
/- The contract of the method text. -/
namespace Go.Proofs.YtdanbabamcdebaaGreatDoor.Va
open Go Go.RowKit GM
attribute [local simp] DepA isB rsAt
end Go.Proofs.YtdanbabamcdebaaGreatDoor.Va
/- The contracts of converted, ToNumber, ToText and ToBool. -/
namespace Go.Proofs.YtdanbabamcdebaaGreatDoor.Va
open Go Go.RowKit GM
def cvR (kd : Nat) (k : Nat) (n : Int) (s : ByteArray) : Nat × Int × ByteArray :=
  if vE k n s.data.toList = 0 then
    (if k = kd ∨ k = 4 then (k, n, s)
     else if kd = 1 then ((nbR k n s).1, (nbR k n s).2, ⟨#[]⟩)
     else if kd = 2 then ((trR k n s).1, (trR k n s).2, ⟨#[]⟩)
     else (3, 0, if k = 1 then ⟨(Tx.fmtL n).toArray⟩ else if k = 2 then (if n = 1 then ⟨#[84, 82, 85, 69]⟩ else ⟨#[70, 65, 76, 83, 69]⟩) else ⟨#[]⟩))
  else (4, 2, ⟨#[]⟩)
theorem vE_two (k : Nat) (n : Int) (l : List UInt8) (h : vE k n l ≠ 0) : vE k n l = 2 := by
  unfold vE at *
  split at h
  · exact absurd rfl h
  · rename_i h2; rw [if_neg h2]
end Go.Proofs.YtdanbabamcdebaaGreatDoor.Va
/- The contracts of ToNumber, ToText and ToBool. -/
namespace Go.Proofs.YtdanbabamcdebaaGreatDoor.Va
open Go Go.RowKit GM
theorem vld_sort {k : Nat} {n : Int} {s : ByteArray} (h : vE k n s.data.toList = 0) : (k = 0 ∧ n = 0 ∧ s = ⟨#[]⟩) ∨ (k = 1 ∧ n ≠ leastI ∧ s = ⟨#[]⟩) ∨ (k = 2 ∧ (n = 0 ∨ n = 1) ∧ s = ⟨#[]⟩) ∨ (k = 3 ∧ n = 0) ∨ (k = 4 ∧ (1 ≤ n ∧ n ≤ 6) ∧ s = ⟨#[]⟩) := by
  have hv : vldV k n s.data.toList = true := by
    unfold vE at h
    split at h
    · assumption
    · omega
  have emp : s.data.toList.isEmpty = true → s = ⟨#[]⟩ := fun e => ByteArray.ext (by simpa using e)
  unfold vldV at hv
  split at hv
  · simp only [Bool.and_eq_true, decide_eq_true_eq] at hv; exact .inl ⟨by assumption, hv.1, emp hv.2⟩
  split at hv
  · simp only [Bool.and_eq_true, decide_eq_true_eq] at hv; exact .inr (.inl ⟨by assumption, hv.1, emp hv.2⟩)
  split at hv
  · simp only [Bool.and_eq_true, decide_eq_true_eq] at hv; exact .inr (.inr (.inl ⟨by assumption, hv.1, emp hv.2⟩))
  split at hv
  · simp only [Bool.and_eq_true, decide_eq_true_eq] at hv; exact .inr (.inr (.inr (.inl ⟨by assumption, hv.1⟩)))
  split at hv
  · simp only [Bool.and_eq_true, decide_eq_true_eq] at hv; exact .inr (.inr (.inr (.inr ⟨by assumption, hv.1, emp hv.2⟩)))
  · cases hv
theorem maxLen_of {s : ByteArray} (h : s.size ≤ 2000) : s.size ≤ maxLen := by unfold maxLen; omega
end Go.Proofs.YtdanbabamcdebaaGreatDoor.Va
/- The arithmetic of what converts: kinds, and what a second conversion gives. -/
namespace Go.Proofs.YtdanbabamcdebaaGreatDoor.Va
open Go Go.RowKit GM
theorem mk_sort (n : Int) : (mkK n = 4 ∧ mkN n = 3) ∨ (mkK n = 1 ∧ mkN n = n ∧ n ≠ leastI) := by
  unfold mkK mkN
  by_cases h : n = leastI
  · exact .inl ⟨if_pos h, if_pos h⟩
  · exact .inr ⟨if_neg h, if_neg h, h⟩
theorem nb_sort (k : Nat) (n : Int) (s : ByteArray) : ((nbR k n s).1 = 4 ∧ ((nbR k n s).2 = 3 ∨ (nbR k n s).2 = 2)) ∨ ((nbR k n s).1 = 1 ∧ (nbR k n s).2 ≠ leastI) := by
  unfold nbR
  split
  · split
    · rcases mk_sort (Tx.parV (trim s.data.toList)) with ⟨a, b⟩ | ⟨a, b, c⟩
      · exact .inl ⟨a, .inl b⟩
      · exact .inr ⟨a, by rw [b]; exact c⟩
    · split
      · exact .inl ⟨rfl, .inl rfl⟩
      · exact .inl ⟨rfl, .inr rfl⟩
  · rcases mk_sort (n * 10000) with ⟨a, b⟩ | ⟨a, b, c⟩
    · exact .inl ⟨a, .inl b⟩
    · exact .inr ⟨a, by rw [b]; exact c⟩
theorem tr_sort (k : Nat) (n : Int) (s : ByteArray) : trR k n s = (4, 2) ∨ trR k n s = (2, 1) ∨ trR k n s = (2, 0) := by
  unfold trR
  split
  · split
    · exact .inr (.inl rfl)
    · split
      · exact .inr (.inr rfl)
      · exact .inl rfl
  · split
    · exact .inr (.inr rfl)
    · exact .inr (.inl rfl)
theorem vE_err {n : Int} (h : 1 ≤ n ∧ n ≤ 6) : vE 4 n [] = 0 := by unfold vE vldV; simp [h]
theorem vE_num {n : Int} (h : n ≠ leastI) : vE 1 n [] = 0 := by unfold vE vldV; simp [h]
theorem vE_bool {n : Int} (h : n = 0 ∨ n = 1) : vE 2 n [] = 0 := by unfold vE vldV; simp [h]
/-- A number, or an error. -/
theorem cv1_ok (k : Nat) (n : Int) (s : ByteArray) : vE (cvR 1 k n s).1 (cvR 1 k n s).2.1 (cvR 1 k n s).2.2.data.toList = 0 ∧ ((cvR 1 k n s).1 = 1 ∨ (cvR 1 k n s).1 = 4) := by
  unfold cvR
  split
  · rename_i h0
    split
    · rename_i h1; exact ⟨h0, h1⟩
    · rw [if_pos rfl]
      rcases nb_sort k n s with ⟨a, b⟩ | ⟨a, b⟩
      · refine ⟨?_, .inr a⟩
        show vE (nbR k n s).1 (nbR k n s).2 [] = 0
        rw [a]; exact vE_err (by omega)
      · refine ⟨?_, .inl a⟩
        show vE (nbR k n s).1 (nbR k n s).2 [] = 0
        rw [a]; exact vE_num b
  · exact ⟨vE_err (n := 2) (by omega), .inr rfl⟩
/-- A value of the kind, or an error, stays as it is. -/
theorem cv_same {kd k : Nat} {n : Int} {s : ByteArray} (h : vE k n s.data.toList = 0) (hk : k = kd ∨ k = 4) : cvR kd k n s = (k, n, s) := by
  unfold cvR; rw [if_pos h, if_pos hk]
theorem chk_fmt {n : Int} (hi : InI n) : chk (Tx.fmtL n) = 0 := by
  have hl := Tx.fmt_len n
  have hd : (Lib.decDigits (n.natAbs / 10000)).length ≤ 20 := Tx.dd_len (by unfold InI at hi; omega)
  have hf := Tx.frac_le (n.natAbs % 10000)
  have hlen : ¬ 256 < (Tx.fmtL n).length := by
    rw [hl]; split <;> omega
  have dg : ∀ c : UInt8, Tx.isDg c = true → 32 ≤ c.toNat ∧ c.toNat ≤ 126 := fun c h => by
    unfold Tx.isDg at h
    have := of_decide_eq_true h
    omega
  have hp : plain (Tx.fmtL n) = true := by
    unfold plain
    rw [List.all_eq_true]
    intro c hc
    have key : 32 ≤ c.toNat ∧ c.toNat ≤ 126 := by
      unfold Tx.fmtL at hc
      rcases List.mem_append.1 hc with h | h
      · split at h
        · have : c = 45 := by simpa using h
          subst this; decide
        · cases h
      · rcases List.mem_append.1 h with h | h
        · exact dg c (Tx.dd_dg _ c h)
        · unfold Tx.fracL at h
          split at h
          · cases h
          · rcases List.mem_cons.1 h with h | h
            · subst h; decide
            · exact dg c (Tx.trimZ_dg (Tx.frD_dg _) c h)
    simp [key.1, key.2]
  unfold chk
  rw [if_neg hlen, if_pos hp]
/-- A text, or an error. -/
theorem cv3_ok (k : Nat) (n : Int) (s : ByteArray) (hi : InI n) : vE (cvR 3 k n s).1 (cvR 3 k n s).2.1 (cvR 3 k n s).2.2.data.toList = 0 ∧ ((cvR 3 k n s).1 = 3 ∨ (cvR 3 k n s).1 = 4) := by
  have tx : ∀ l : List UInt8, chk l = 0 → vE 3 0 l = 0 := fun l h => by unfold vE vldV; simp [h]
  unfold cvR
  split
  · rename_i h0
    split
    · rename_i h1; exact ⟨h0, h1⟩
    · rw [if_neg (by omega), if_neg (by omega)]
      refine ⟨?_, .inl rfl⟩
      split
      · exact tx _ (by show chk (Tx.fmtL n).toArray.toList = 0; rw [List.toList_toArray]; exact chk_fmt hi)
      · split
        · split
          · exact tx _ (by decide)
          · exact tx _ (by decide)
        · exact tx _ (by decide)
  · exact ⟨vE_err (n := 2) (by omega), .inr rfl⟩
end Go.Proofs.YtdanbabamcdebaaGreatDoor.Va
/- The arithmetic of conversions there and back. -/
namespace Go.Proofs.YtdanbabamcdebaaGreatDoor.Va
open Go Go.RowKit GM
/-- The text of a number. -/
theorem cv3_num {n : Int} (h : n ≠ leastI) : cvR 3 1 n ⟨#[]⟩ = (3, 0, ⟨(Tx.fmtL n).toArray⟩) := by
  unfold cvR
  rw [if_pos (show vE 1 n (⟨#[]⟩ : ByteArray).data.toList = 0 from vE_num h), if_neg (by omega), if_neg (by omega), if_neg (by omega), if_pos rfl]
theorem vE_text {l : List UInt8} (h : chk l = 0) : vE 3 0 l = 0 := by unfold vE vldV; simp [h]
theorem cv3_true : cvR 3 2 1 ⟨#[]⟩ = (3, 0, ⟨#[84, 82, 85, 69]⟩) := by decide
theorem cv3_false : cvR 3 2 0 ⟨#[]⟩ = (3, 0, ⟨#[70, 65, 76, 83, 69]⟩) := by decide
end Go.Proofs.YtdanbabamcdebaaGreatDoor.Va
