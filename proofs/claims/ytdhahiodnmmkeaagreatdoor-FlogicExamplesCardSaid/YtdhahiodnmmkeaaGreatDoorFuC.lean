/- The reference's Fail, Make, Truth, Text; pieces of a text. -/
import Derived.Test.YtdhahiodnmmkeaaGreatDoorMgf
import Derived.Test.YtdhahiodnmmkeaaGreatDoorMgg
namespace Go.Proofs.YtdhahiodnmmkeaaGreatDoor.Va
open Go Go.RowKit GM
set_option linter.unusedVariables false
set_option linter.unusedSimpArgs false
theorem rfail_any (c : Int) (w : World) : Calls Tryz.prog 45 #[.int .i64 c] w fun e w' => e = .returned (.agg #[.int .u8 4, .int .i64 (flN c), .string ⟨#[]⟩]) ∧ Below w.heap.size w w' := by
  by_cases h1 : c < 1
  · have H : Hid (flN c = 2) := if_neg (by omega)
    generalize flN c = r at *
    go_enter Tryz.func45, Tryz.ntmps45
    go_wp2_with fail
    refine bodyPost_ret (v := .agg #[.int .u8 4, .int .i64 2, .string ⟨#[]⟩]) (by simp [results, Tryz.results45, go_sem]) rfl ⟨by rw [H.out], valloc _ _⟩
  · by_cases h2 : 7 < c
    · have H : Hid (flN c = 2) := if_neg (by omega)
      generalize flN c = r at *
      go_enter Tryz.func45, Tryz.ntmps45
      go_wp2_with fail
      refine bodyPost_ret (v := .agg #[.int .u8 4, .int .i64 2, .string ⟨#[]⟩]) (by simp [results, Tryz.results45, go_sem]) rfl ⟨by rw [H.out], valloc _ _⟩
    · have H : Hid (flN c = c) := if_pos (by omega)
      generalize flN c = r at *
      go_enter Tryz.func45, Tryz.ntmps45
      go_wp2_with fail
      refine bodyPost_ret (v := .agg #[.int .u8 4, .int .i64 c, .string ⟨#[]⟩]) (by simp [results, Tryz.results45, go_sem]) rfl ⟨by rw [H.out], valloc _ _⟩
theorem rtruth_any (b : Bool) (w : World) : Calls Tryz.prog 44 #[.bool b] w fun e w' => e = .returned (.agg #[.int .u8 2, .int .i64 (b2i b), .string ⟨#[]⟩]) ∧ Below w.heap.size w w' := by
  cases b
  · have H : Hid (b2i false = 0) := rfl
    generalize b2i false = x at *
    go_enter Tryz.func44, Tryz.ntmps44
    go_wp2_with fail
    refine bodyPost_ret (v := .agg #[.int .u8 2, .int .i64 0, .string ⟨#[]⟩]) (by simp [results, Tryz.results44, go_sem]) rfl ⟨by rw [H.out], valloc _ _⟩
  · have H : Hid (b2i true = 1) := rfl
    generalize b2i true = x at *
    go_enter Tryz.func44, Tryz.ntmps44
    go_wp2_with fail
    refine bodyPost_ret (v := .agg #[.int .u8 2, .int .i64 1, .string ⟨#[]⟩]) (by simp [results, Tryz.results44, go_sem]) rfl ⟨by rw [H.out], valloc _ _⟩
end Go.Proofs.YtdhahiodnmmkeaaGreatDoor.Va
