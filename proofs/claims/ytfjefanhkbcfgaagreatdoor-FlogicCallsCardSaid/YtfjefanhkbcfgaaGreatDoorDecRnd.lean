/- Contracts of Round, Trunc and Floor, of dec. -/
import Derived.Test.YtfjefanhkbcfgaaGreatDoorHold
namespace Go.Proofs.YtfjefanhkbcfgaaGreatDoor
open Go.RowKit

/-- a without its places. -/
def truncZ (a : Int) : Int := a - a.tmod 10000
theorem trunc_eq {a : Int} (h : InI a) : wrap64 (wrap64 (a.tdiv 10000) * 10000) = truncZ a := by
  unfold truncZ InI wrap64 at *
  rcases Int.le_total 0 a with h0 | h0
  · rw [Int.tdiv_eq_ediv_of_nonneg h0, Int.tmod_eq_emod_of_nonneg h0]; omega
  · obtain ⟨b, rfl⟩ : ∃ b, a = -b := ⟨-a, by omega⟩
    rw [Int.neg_tdiv, Int.neg_tmod, Int.tdiv_eq_ediv_of_nonneg (by omega), Int.tmod_eq_emod_of_nonneg (by omega)]; omega
set_option maxHeartbeats 400000 in
theorem trunc_any (a : Int) (h : InI a) (w : World) :
    Calls Tryz.prog 77 #[.int .i64 a] w fun e w' => e = .returned (.int .i64 (truncZ a)) ∧ w = w' := by
  have e1 := Lib.hid (trunc_eq h)
  clear h
  go_enter Tryz.func77, Tryz.ntmps77
  go_wp2
  go_ret

  exact ⟨retI e1.out, rfl⟩
theorem trunc_bd {a : Int} (h : InI a) : InI (truncZ a) ∧ -9223372036854775808 < truncZ a := by
  unfold truncZ InI at *
  rcases Int.le_total 0 a with h0 | h0
  · rw [Int.tmod_eq_emod_of_nonneg h0]; omega
  · obtain ⟨b, rfl⟩ : ∃ b, a = -b := ⟨-a, by omega⟩
    rw [Int.neg_tmod, Int.tmod_eq_emod_of_nonneg (by omega)]; omega
/-- The greatest whole number that is not greater. -/
def floorZ (a : Int) : Int := if a < truncZ a then truncZ a - 10000 else truncZ a
set_option maxHeartbeats 400000 in
theorem floor_any (a : Int) (h : InI a) (w : World) :
    Calls Tryz.prog 76 #[.int .i64 a] w fun e w' => e = .returned (.tuple #[.int .i64 (resV (floorZ a)), .bool (resB (floorZ a))]) ∧ w = w' := by
  have ht := Lib.hid (trunc_bd h)
  have HA := Lib.hid h
  clear h
  by_cases hc : a < truncZ a
  · have e1 : floorZ a = truncZ a - 10000 := by unfold floorZ; rw [if_pos hc]
    rw [e1]
    clear e1
    go_enter Tryz.func76, Tryz.ntmps76
    go_wp2_with fail
    refine (trunc_any a HA.out _).mono ?_
    rintro e w' ⟨rfl, rfl⟩
    go_wp2_with fail
    refine (sub_any _ 10000 ht.out.1 (by unfold InI; omega) _).mono ?_
    rintro e w' ⟨rfl, rfl⟩
    go_wp2_with fail
    go_ret2
    exact ⟨rfl, rfl⟩
  · have e1 : floorZ a = truncZ a := by unfold floorZ; rw [if_neg hc]
    rw [e1, resV_t (by have := ht.out; unfold InI at this; omega), resB_t (by have := ht.out; unfold InI at this; omega)]
    clear e1
    go_enter Tryz.func76, Tryz.ntmps76
    go_wp2_with fail
    refine (trunc_any a HA.out _).mono ?_
    rintro e w' ⟨rfl, rfl⟩
    go_wp2_with fail
    go_ret2
    exact ⟨rfl, rfl⟩
end Go.Proofs.YtfjefanhkbcfgaaGreatDoor
