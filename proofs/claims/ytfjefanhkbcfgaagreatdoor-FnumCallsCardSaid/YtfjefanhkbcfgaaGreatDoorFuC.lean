/- The reference's Fail, Make, Truth, Text; pieces of a text. -/
import Derived.Test.YtfjefanhkbcfgaaGreatDoorFuB
import Derived.Test.YtfjefanhkbcfgaaGreatDoorMgf
namespace Go.Proofs.YtfjefanhkbcfgaaGreatDoor.Va
open Go Go.RowKit GM
set_option linter.unusedVariables false
set_option linter.unusedSimpArgs false
theorem rfail_any (c : Int) (w : World) : Calls Tryz.prog 68 #[.int .i64 c] w fun e w' => e = .returned (.agg #[.int .u8 4, .int .i64 (flN c), .string ⟨#[]⟩]) ∧ Below w.heap.size w w' := by
  by_cases h1 : c < 1
  · have H : Hid (flN c = 2) := if_neg (by omega)
    generalize flN c = r at *
    go_enter Tryz.func68, Tryz.ntmps68
    go_wp2_with fail
    refine bodyPost_ret (v := .agg #[.int .u8 4, .int .i64 2, .string ⟨#[]⟩]) (by simp [results, Tryz.results68, go_sem]) rfl ⟨by rw [H.out], valloc _ _⟩
  · by_cases h2 : 7 < c
    · have H : Hid (flN c = 2) := if_neg (by omega)
      generalize flN c = r at *
      go_enter Tryz.func68, Tryz.ntmps68
      go_wp2_with fail
      refine bodyPost_ret (v := .agg #[.int .u8 4, .int .i64 2, .string ⟨#[]⟩]) (by simp [results, Tryz.results68, go_sem]) rfl ⟨by rw [H.out], valloc _ _⟩
    · have H : Hid (flN c = c) := if_pos (by omega)
      generalize flN c = r at *
      go_enter Tryz.func68, Tryz.ntmps68
      go_wp2_with fail
      refine bodyPost_ret (v := .agg #[.int .u8 4, .int .i64 c, .string ⟨#[]⟩]) (by simp [results, Tryz.results68, go_sem]) rfl ⟨by rw [H.out], valloc _ _⟩
theorem rmake_any (n : Int) (hn : leastI ≤ n) (w : World) : Calls Tryz.prog 69 #[.int .i64 n] w fun e w' => e = .returned (.agg #[.int .u8 (mkK n : Int), .int .i64 (mkN n), .string ⟨#[]⟩]) ∧ Below w.heap.size w w' := by
  have HX : Hid (B3 (w.alloc (.cells #[.int .u8 0, .int .i64 0, .string ⟨#[]⟩] 25)) w.heap.size 0 0 ⟨#[]⟩) := B3.start w 0 0 ⟨#[]⟩
  have HW := Lib.hid (valloc w (.cells #[.int .u8 0, .int .i64 0, .string ⟨#[]⟩] 25))
  by_cases h : n = -9223372036854775808
  · have H1 : Hid (mkK n = 4) := if_pos h
    have H2 : Hid (mkN n = 3) := if_pos h
    have HF : Hid (flN 3 = 3) := rfl
    generalize mkK n = x at *
    generalize mkN n = y at *
    subst h
    go_enter Tryz.func69, Tryz.ntmps69
    go_wp2_with fail
    generalize w.alloc (.cells #[.int .u8 0, .int .i64 0, .string ⟨#[]⟩] 25) = wa at *
    refine (rfail_any 3 _).mono ?_
    rw [HF.out]
    rintro e w1 ⟨rfl, hB⟩
    have hX : B3 w1 w.heap.size 0 0 ⟨#[]⟩ := HX.out.later hB
    have HBW := Lib.hid (vnext HW.out hB)
    clear hB
    obtain ⟨x0, x1, x2, z0, z1, z2⟩ := hX.cells
    have hXl := hX.lt
    have hq : B3 (((w1.setCell ⟨w.heap.size, 0, none⟩ (.int .u8 4)).setCell ⟨w.heap.size, 1, none⟩ (.int .i64 3)).setCell ⟨w.heap.size, 2, none⟩ (.string ⟨#[]⟩)) w.heap.size 4 3 ⟨#[]⟩ ∧ w1.grownBy (((w1.setCell ⟨w.heap.size, 0, none⟩ (.int .u8 4)).setCell ⟨w.heap.size, 1, none⟩ (.int .i64 3)).setCell ⟨w.heap.size, 2, none⟩ (.string ⟨#[]⟩)) (some (w.heap.size)) := hX.set 4 3 ⟨#[]⟩
    have hb5 := HBW.out.grown hq.2 HBW.out.size (fun q hq => by injection hq with hq; omega)
    obtain ⟨hq, _⟩ := hq
    go_wp2_with fail
    generalize ((w1.setCell ⟨w.heap.size, 0, none⟩ (.int .u8 4)).setCell ⟨w.heap.size, 1, none⟩ (.int .i64 3)).setCell ⟨w.heap.size, 2, none⟩ (.string ⟨#[]⟩) = w5 at *
    obtain ⟨y0, y1, y2, _, _, _⟩ := hq.cells
    refine bodyPost_ret (v := .agg #[.int .u8 4, .int .i64 3, .string ⟨#[]⟩]) (by simp [results, Tryz.results69, go_sem, y0, y1, y2]) rfl ⟨by rw [H1.out, H2.out]; rfl, hb5⟩
  · have H1 : Hid (mkK n = 1) := if_neg h
    have H2 : Hid (mkN n = n) := if_neg h
    have h2 : decide (n < -9223372036854775807) = false := by simp; unfold leastI at hn; omega
    generalize mkK n = x at *
    generalize mkN n = y at *
    clear h hn HX HW
    go_enter Tryz.func69, Tryz.ntmps69
    go_wp2_with fail
    refine bodyPost_ret (v := .agg #[.int .u8 1, .int .i64 n, .string ⟨#[]⟩]) (by simp [results, Tryz.results69, go_sem]) rfl ⟨by rw [H1.out, H2.out]; rfl, valloc _ _⟩
end Go.Proofs.YtfjefanhkbcfgaaGreatDoor.Va
