/- The walk of the law: Neg and Percent are what the specification says. -/
import Derived.Test.YtdanbabamcdebaaGreatDoorY1
import Derived.Test.YtdanbabamcdebaaGreatDoorCameV
import Derived.Test.YtdanbabamcdebaaGreatDoorP1
import Derived.Test.YtdanbabamcdebaaGreatDoorRefMul
import Derived.Test.YtdanbabamcdebaaGreatDoorRefTot
import Derived.Test.YtdanbabamcdebaaGreatDoorHold
import Derived.Test.YtdanbabamcdebaaGreatDoorValO
namespace Go.Proofs.YtdanbabamcdebaaGreatDoor.Va
open Go Go.RowKit GM Sx
set_option linter.unusedVariables false
theorem awake13 (w : World) (h : Tb w) : Calls Tryz.prog 13 #[] w fun e w' => e = .returned (.bool true) ∧ Below w.heap.size w w' :=
  va_call (facts := []) (tab := []) (σ := symOf []) (symOf_one rfl) h foks_nil toks_nil (args := []) (v := .bool true) (by kernel_rfl) rfl rfl
theorem pureB {f : FuncId} {a : Array Value} {v : Value} (h : ∀ W : World, Calls Tryz.prog f a W fun e w' => e = .returned v ∧ W = w') : ∀ W, Tb W → Calls Tryz.prog f a W fun e w' => e = .returned v ∧ Below W.heap.size W w' :=
  fun W _ => (h W).mono fun e w' ⟨a, b⟩ => ⟨a, b ▸ Below.refl _ _⟩
theorem drewB {f : FuncId} {a : Array Value} {v : Value} (h : ∀ W : World, Calls Tryz.prog f a W fun e w' => e = .returned v ∧ ∃ k, w' = W.drewN k) : ∀ W, Tb W → Calls Tryz.prog f a W fun e w' => e = .returned v ∧ Below W.heap.size W w' :=
  fun W _ => (h W).mono fun e w' ⟨a, k, b⟩ => ⟨a, b ▸ ⟨rfl, rfl, rfl, Nat.le_refl _, fun _ _ => rfl⟩⟩
theorem resB_in {z : Int} (h : resB z = true) : resV z = z ∧ -9223372036854775808 < z ∧ z < 9223372036854775808 := by
  have : -9223372036854775808 < z ∧ z < 9223372036854775808 := of_decide_eq_true h
  exact ⟨by unfold resV; rw [if_pos this], this⟩
/-- The cut text. -/
theorem cut_len (s : ByteArray) : ∃ m : Nat, (m : Int) = (if (300 : Int) < (s.size : Int) then 300 else (s.size : Int)) ∧ m ≤ s.size ∧ m ≤ 300 := by
  by_cases h : 300 < s.size
  · exact ⟨300, by rw [if_pos (by omega)]; rfl, by omega, by omega⟩
  · exact ⟨s.size, by rw [if_neg (by omega)], by omega, by omega⟩
theorem cut_size {s : ByteArray} {m : Nat} (h : m ≤ s.size) : (s.extract 0 m).size = m := by
  rw [ByteArray.size_extract]; omega
theorem empty_of {s : ByteArray} (h : s.data.toList = []) : s = ⟨#[]⟩ := ByteArray.ext (Array.toList_inj.1 h)
/-- A converted number has no text. -/
theorem cv1_num {k : Nat} {n : Int} {s : ByteArray} (h1 : (cvR 1 k n s).1 = 1) : (cvR 1 k n s).2.2 = ⟨#[]⟩ := by
  have h := (cv1_ok k n s).1
  have hv : vldV (cvR 1 k n s).1 (cvR 1 k n s).2.1 (cvR 1 k n s).2.2.data.toList = true := by
    unfold vE at h
    split at h
    · assumption
    · omega
  exact empty_of (vld_text hv (by omega))
/-- What is converted fits again. -/
theorem cv_fit (kd k : Nat) (n : Int) (s : ByteArray) (hs : s.size ≤ 2000) (hi : InI n) : (cvR kd k n s).2.2.size ≤ 2000 ∧ InI (cvR kd k n s).2.1 := by
  have small : ∀ x : Int, -1000000 ≤ x → x ≤ 1000000 → InI x := fun x h1 h2 => by unfold InI; omega
  have mk : ∀ x : Int, InI x → InI (mkN x) := fun x h => by
    unfold mkN
    split
    · exact small 3 (by omega) (by omega)
    · exact h
  unfold cvR
  split
  · rename_i h0
    split
    · exact ⟨hs, hi⟩
    · rename_i hk
      split
      · refine ⟨(by decide : (⟨#[]⟩ : ByteArray).size ≤ 2000), ?_⟩
        show InI (nbR k n s).2
        unfold nbR
        split
        · split
          · rename_i he
            have := Tx.par_bd he
            exact mk _ (by unfold Tx.mostI at this; unfold InI; omega)
          · split
            · exact small 3 (by omega) (by omega)
            · exact small 2 (by omega) (by omega)
        · refine mk _ (small _ ?_ ?_) <;> rcases vld_sort h0 with ⟨g, g', _⟩ | ⟨g, g', _⟩ | ⟨g, g', _⟩ | ⟨g, _⟩ | ⟨g, g', _⟩ <;> omega
      · split
        · refine ⟨(by decide : (⟨#[]⟩ : ByteArray).size ≤ 2000), ?_⟩
          show InI (trR k n s).2
          rcases tr_sort k n s with a | a | a <;> rw [a]
          · exact small 2 (by omega) (by omega)
          · exact small 1 (by omega) (by omega)
          · exact small 0 (by omega) (by omega)
        · refine ⟨?_, small 0 (by omega) (by omega)⟩
          dsimp only
          split
          · have h := chk_fmt hi
            have hl : (Tx.fmtL n).length ≤ 2000 := by
              unfold chk at h
              split at h
              · cases h
              · omega
            exact hl
          · split
            · split <;> decide
            · decide
  · exact ⟨by decide, small 2 (by omega) (by omega)⟩
end Go.Proofs.YtdanbabamcdebaaGreatDoor.Va
