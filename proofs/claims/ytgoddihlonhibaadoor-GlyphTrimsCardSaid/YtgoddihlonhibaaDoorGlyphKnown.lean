/- The fixed texts of the statements of layer 4. -/
import Derived.Test.YtgoddihlonhibaaDoorGlyphH
import Derived.Test.YtgoddihlonhibaaDoorGlyphML
namespace Go.Proofs.YtgoddihlonhibaaDoor
open Go.RowKit GM
theorem k_quo : str (quoS (⟨#[120]⟩ : ByteArray).data.toList) = ⟨#[34, 120, 34]⟩ := by rw [show quoS (⟨#[120]⟩ : ByteArray).data.toList = [34, 120, 34] by decide +kernel]; rfl
theorem k_chk : chk (⟨#[120]⟩ : ByteArray).data.toList = 0 := by decide +kernel
theorem k_up : upS ⟨#[120]⟩ = ⟨#[88]⟩ := by unfold upS; rw [show (⟨#[120]⟩ : ByteArray).data.toList.map up = [88] by decide +kernel]; rfl
theorem k_trim : str (trim (⟨#[32, 120, 32]⟩ : ByteArray).data.toList) = ⟨#[120]⟩ := by rw [show trim (⟨#[32, 120, 32]⟩ : ByteArray).data.toList = [120] by decide +kernel]; rfl
theorem k_cmp : cmpS (⟨#[98]⟩ : ByteArray).data.toList (⟨#[97]⟩ : ByteArray).data.toList = 1 := by decide +kernel
set_option maxHeartbeats 800000 in
theorem known_any (w : World) (hM : ML w) : Calls Tryd.prog 10 #[] w fun e w' => e = .returned (.bool true) ∧ Below w.heap.size w w' := by
  have HM := Lib.hid hM
  clear hM
  go_enter Tryd.func10, Tryd.ntmps10
  go_wp2_with fail
  refine (quote_any ⟨#[120]⟩ (by decide) _ HM.out).mono ?_
  rintro e w1 ⟨rfl, hB1⟩
  rw [k_quo, k_chk]
  have HB1 := Lib.hid hB1
  clear hB1
  go_wp2_with fail
  refine (upper_any ⟨#[120]⟩ (by decide) _).mono ?_
  rintro e w2 ⟨rfl, hB2⟩
  rw [k_up]
  have HB2 := Lib.hid (Below.next HB1.out hB2)
  clear hB2
  go_wp2_with fail
  refine (trim_any ⟨#[32, 120, 32]⟩ (by decide) _).mono ?_
  rintro e w3 ⟨rfl, hB3⟩
  rw [k_trim]
  have HB3 := Lib.hid (Below.next HB2.out hB3)
  clear hB3
  go_wp2_with fail
  refine (compare_any ⟨#[98]⟩ ⟨#[97]⟩ (by decide) (by decide) _).mono ?_
  rintro e w4 ⟨rfl, hB4⟩
  rw [k_cmp]
  have HB4 := Lib.hid (Below.next HB3.out hB4)
  clear hB4
  go_wp2_with fail
  go_ret
  exact ⟨rfl, HB4.out⟩
end Go.Proofs.YtgoddihlonhibaaDoor
