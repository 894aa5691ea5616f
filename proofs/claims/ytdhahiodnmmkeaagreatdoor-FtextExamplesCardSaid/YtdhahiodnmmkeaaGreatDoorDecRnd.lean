/- Contracts of Round, Trunc and Floor, of dec. -/
import Derived.Test.YtdhahiodnmmkeaaGreatDoorHold
namespace Go.Proofs.YtdhahiodnmmkeaaGreatDoor
open Go.RowKit
def zbv (a : Int) : Int := a - a.tmod 10000
theorem zxp {a : Int} (h : InI a) : wrap64 (wrap64 (a.tdiv 10000) * 10000) = zbv a := by
 unfold zbv InI wrap64 at *
 rcases Int.le_total 0 a with h0 | h0
 · rw [Int.tdiv_eq_ediv_of_nonneg h0, Int.tmod_eq_emod_of_nonneg h0]; omega
 · obtain ⟨b, rfl⟩ : ∃ b, a = -b := ⟨-a, by omega⟩
   rw [Int.neg_tdiv, Int.neg_tmod, Int.tdiv_eq_ediv_of_nonneg (by omega), Int.tmod_eq_emod_of_nonneg (by omega)]; omega
set_option maxHeartbeats 400000 in
theorem zt5 (a : Int) (h : InI a) (w : World) :
 Calls Tryz.prog 137 #[.int .i64 a] w fun e w' => e = .returned (.int .i64 (zbv a)) ∧ w = w' := by
 have e1 := Lib.hid (zxp h)
 clear h
 go_enter Tryz.func137, Tryz.ntmps137
 go_wp2
 go_ret
 exact ⟨retI e1.out, rfl⟩
theorem zqn {a : Int} (h : InI a) : InI (zbv a) ∧ -9223372036854775808 < zbv a := by
 unfold zbv InI at *
 rcases Int.le_total 0 a with h0 | h0
 · rw [Int.tmod_eq_emod_of_nonneg h0]; omega
 · obtain ⟨b, rfl⟩ : ∃ b, a = -b := ⟨-a, by omega⟩
   rw [Int.neg_tmod, Int.tmod_eq_emod_of_nonneg (by omega)]; omega
end Go.Proofs.YtdhahiodnmmkeaaGreatDoor
