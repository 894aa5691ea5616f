/- Merged: AnyFlogicCalls LawFlogicExamples. -/
import Derived.Test.YtdhahiodnmmkeaaGreatDoorMgl
import Derived.Test.YtdhahiodnmmkeaaGreatDoorRowCap
import Derived.Test.YtdhahiodnmmkeaaGreatDoorMgb
import Derived.Shelf.Vars
import Derived.Test.YtdhahiodnmmkeaaGreatDoorExlW
/- The walk of the law FlogicCalls. -/
namespace Go.Proofs.YtdhahiodnmmkeaaGreatDoor.Va
open Go Go.RowKit GM
set_option linter.unusedVariables false
set_option linter.unusedSimpArgs false
set_option maxRecDepth 100000 in
set_option maxHeartbeats 12800000 in
theorem flogicCalls_any (fn : Nat) (a : Option Addr) (n cap : Nat) (L : List V3) (hc : n ≤ cap) (w : World) (hL : IsV w a n L) (hv : ∀ v ∈ L, v.2.2.size ≤ maxLen ∧ InI v.2.1) (hT : Tb w) :
    Calls Tryz.prog 16 #[.int .u8 (fn : Int), .slice a n cap] w fun e w' => e = .returned (.bool true) ∧ Below w.heap.size w w' := by
  have HT := Lib.hid hT
  have HFW := Lib.hid (fun W (hB : Below w.heap.size w W) => few_any a n cap L hc W (IsOf.later hL hB) (fun v h => (hv v h).1))
  have hML : ∀ v ∈ fewL L, v.2.2.size ≤ 2000 ∧ InI v.2.1 := fun v h => ⟨Nat.le_trans (fewL_sz h) (by decide), fewL_in (fun u hu => (hv u hu).2) h⟩
  have hMn : (fewL L).length ≤ 20 := by rw [fewL_len]; exact Nat.min_le_right _ _
  clear hL hv
  generalize fewL L = M at *
  have HPC := Lib.hid (fun a cap W (hB : Below w.heap.size w W) (h : IsV W a M.length M) => plcall_any fn a M.length cap M W h (by omega) hML (HT.out.later hB))
  have HRC := Lib.hid (fun a cap W (hB : Below w.heap.size w W) (h : IsV W a M.length M) => rlcall_any fn a M.length cap M W h (by omega) hML (HT.out.later hB))
  have HEQ := Lib.hid (fun a a' cap cap' W (h1 : IsV W a M.length M) (h2 : IsV W a' M.length M) => eqV_any a a' M.length cap cap' M (by omega) W h1 h2)
  have HAW := Lib.hid (fun W (hB : Below w.heap.size w W) => awake15 W (HT.out.later hB))
  generalize callL fn M = res at *
  obtain ⟨⟨rk, rn, rs⟩, re⟩ := res
  unfold vOf at HPC HRC
  dsimp only at HPC HRC
  clear hML hT
  go_enter Tryz.func16, Tryz.ntmps16
  go_wp2_with fail
  refine (HFW.out _ (Below.refl _ _)).mono ?_
  rintro e w1 ⟨⟨v1, rfl, hO1⟩, hB1⟩
  obtain ⟨a1, c1, rfl, hI1⟩ := hO1.isOf cellsV_len
  have HB1 := Lib.hid hB1
  have HI1 := Lib.hid hI1
  clear hO1 hB1 hI1
  go_wp2_with fail
  refine (HPC.out _ _ _ HB1.out HI1.out).mono ?_
  rintro e w2 ⟨rfl, hB2⟩
  have HX2 := Lib.hid (B3.start w2 rk rn rs)
  have l2 := valloc w2 (.cells #[.int .u8 (rk : Int), .int .i64 rn, .string rs] 26)
  have HB2 := Lib.hid (vnext HB1.out (vnext hB2 l2))
  have HI2 := Lib.hid (HI1.out.later (vnext hB2 l2))
  clear hB2 l2 HB1 HI1
  go_upto_region 3 with fail
  generalize w2.alloc (.cells #[.int .u8 (rk : Int), .int .i64 rn, .string rs] 26) = w3 at *
  have hx2 := HX2.out.lt
  go_wp2_with fail
  refine (HFW.out _ HB2.out).mono ?_
  rintro e w4 ⟨⟨v4, rfl, hO4⟩, hB4⟩
  obtain ⟨a4, c4, rfl, hI4⟩ := hO4.isOf cellsV_len
  have HB4 := Lib.hid (vnext HB2.out hB4)
  have HI4 := Lib.hid hI4
  have HX4 := Lib.hid (HX2.out.later hB4)
  have HJ4 := Lib.hid (HI2.out.later hB4)
  clear hO4 hB4 hI4 HB2 HI2 HX2 hx2
  go_wp2_with fail
  refine (HRC.out _ _ _ HB4.out HI4.out).mono ?_
  rintro e w5 ⟨rfl, hB5⟩
  have HY5 := Lib.hid (B3.start w5 rk rn rs)
  have l5 := valloc w5 (.cells #[.int .u8 (rk : Int), .int .i64 rn, .string rs] 26)
  have HB5 := Lib.hid (vnext HB4.out (vnext hB5 l5))
  have HX5 := Lib.hid (HX4.out.later (vnext hB5 l5))
  have HI5 := Lib.hid (HJ4.out.later (vnext hB5 l5))
  clear hB5 l5 HB4 HI4 HX4 HJ4
  go_upto_region 4 with fail
  generalize w5.alloc (.cells #[.int .u8 (rk : Int), .int .i64 rn, .string rs] 26) = w6 at *
  obtain ⟨x0, x1, x2, _, _, _⟩ := HX5.out.cells
  obtain ⟨y0, y1, y2, _, _, _⟩ := HY5.out.cells
  have hx5 := HX5.out.lt
  have hy5 := HY5.out.lt
  go_wp2_with fail
  refine (HFW.out _ HB5.out).mono ?_
  rintro e w7 ⟨⟨v7, rfl, hO7⟩, hB7⟩
  obtain ⟨a7, c7, rfl, hI7⟩ := hO7.isOf cellsV_len
  have HB7 := Lib.hid (vnext HB5.out hB7)
  have HI7 := Lib.hid hI7
  have HJ7 := Lib.hid (HI5.out.later hB7)
  clear hO7 hB7 hI7 HB5 HI5 x0 x1 x2 y0 y1 y2 hx5 hy5
  go_wp2_with fail
  refine (HEQ.out _ _ _ _ _ HJ7.out HI7.out).mono ?_
  rintro e w8 ⟨rfl, hB8⟩
  have HB8 := Lib.hid (vnext HB7.out hB8)
  clear hB8
  go_wp2_with fail
  refine (HAW.out _ HB8.out).mono ?_
  rintro e w9 ⟨rfl, hB9⟩
  have HB9 := Lib.hid (vnext HB8.out hB9)
  clear hB9
  go_wp2_with fail
  go_ret
  exact ⟨rfl, HB9.out⟩
end Go.Proofs.YtdhahiodnmmkeaaGreatDoor.Va
/- The law FlogicExamples, from any world. -/
namespace Go.Proofs.YtdhahiodnmmkeaaGreatDoor.Va
open Go Go.RowKit GM
set_option linter.unusedVariables false
theorem flogicExamples_law (w : World) (hl : laidMetH Tryz.prog Rows.flogicExamplesRow.laid w) : Calls Tryz.prog 5 #[] w fun e w' => e = .returned (.bool true) ∧ Below w.heap.size w w' := by
  have hT : Tb w := tb_of (MakeChecks.laidMetH_plain _ _ _ (by kernel_rfl)) hl
  exact flogicExamples_of w (fun fn a n cap M hc hk W hB hI => flogicCalls_any fn a n cap M hc W hI (okV_wide hk) (hT.later hB)) (fun W hB => awake15 W (hT.later hB))
end Go.Proofs.YtdhahiodnmmkeaaGreatDoor.Va
