/- The contract of val.Compare. -/
import Derived.Test.YtfjefanhkbcfgaaGreatDoorValA
import Derived.Test.YtfjefanhkbcfgaaGreatDoorMgb
import Derived.Test.YtfjefanhkbcfgaaGreatDoorGlyphMath
import GoSem.Op.String
import Derived.Test.YtfjefanhkbcfgaaGreatDoorMgc
import Derived.Test.YtfjefanhkbcfgaaGreatDoorSeqP
import Derived.BigQuiet
import Derived.Deep.QuietTactic
namespace Go.Proofs.YtfjefanhkbcfgaaGreatDoor.Va
open Go Go.RowKit GM
attribute [local simp] DepA isB rsAt
def sgI (a b : Int) : Int := if a < b then -1 else if b < a then 1 else 0
theorem cmpL_any (a b : Int) (w : World) : Calls Tryz.prog 75 #[.int .i64 a, .int .i64 b] w fun e w' => e = .returned (.int .i64 (sgI a b)) ∧ w = w' := by
  have H : Hid (sgI a b = if a < b then -1 else if b < a then 1 else 0) := rfl
  generalize sgI a b = r at *
  have HN : Hid (∀ (x : Int) (w : World), Calls Tryz.prog 140 #[.int .i64 x] w fun e w' => e = .returned (.bool false) ∧ w = w') := by
    intro x w
    go_enter Tryz.func140, Tryz.ntmps140
    go_wp2_with fail
    go_ret
    exact ⟨rfl, rfl⟩
  by_cases h1 : a < b
  · have HR : Hid (r = -1) := by rw [H.out, if_pos h1]; rfl
    go_enter Tryz.func75, Tryz.ntmps75
    go_wp2_with (first | (refine (HN.out _ _).mono ?_; rintro e w1 ⟨rfl, rfl⟩))
    go_ret
    exact ⟨retE (by rw [HR.out]), rfl⟩
  · by_cases h2 : b < a
    · have HR : Hid (r = 1) := by rw [H.out, if_neg h1, if_pos h2]; rfl
      go_enter Tryz.func75, Tryz.ntmps75
      go_wp2_with (first | (refine (HN.out _ _).mono ?_; rintro e w1 ⟨rfl, rfl⟩))
      go_ret
      exact ⟨retE (by rw [HR.out]), rfl⟩
    · have HR : Hid (r = 0) := by rw [H.out, if_neg h1, if_neg h2]; rfl
      have he : a = b := by omega
      subst he
      go_enter Tryz.func75, Tryz.ntmps75
      go_wp2_with (first | (refine (HN.out _ _).mono ?_; rintro e w1 ⟨rfl, rfl⟩))
      go_ret
      exact ⟨retE (by rw [HR.out]), rfl⟩
theorem B3.set {w : World} {p k : Nat} {n : Int} {s : ByteArray} (h : B3 w p k n s) (k' : Nat) (n' : Int) (s' : ByteArray) :
    B3 (((w.setCell ⟨p, 0, none⟩ (.int .u8 (k' : Int))).setCell ⟨p, 1, none⟩ (.int .i64 n')).setCell ⟨p, 2, none⟩ (.string s')) p k' n' s' ∧
    w.grownBy (((w.setCell ⟨p, 0, none⟩ (.int .u8 (k' : Int))).setCell ⟨p, 1, none⟩ (.int .i64 n')).setCell ⟨p, 2, none⟩ (.string s')) (some p) := by
  have := set3 w p 25 _ _ _ (.int .u8 (k' : Int)) (.int .i64 n') (.string s') h
  exact ⟨this.2, this.1⟩
theorem B3.grown {w w' : World} {p q k : Nat} {n : Int} {s : ByteArray} (h : B3 w p k n s) (hg : w.grownBy w' (some q)) (hne : p ≠ q) : B3 w' p k n s :=
  (hg.block p h.lt (by intro e; injection e with e; exact hne e)).trans h
end Go.Proofs.YtfjefanhkbcfgaaGreatDoor.Va
