/- Merged: AnyFtextCalls LawFtextExamples. -/
import Derived.Test.YtdhahiodnmmkeaaGreatDoorMgj
import Derived.Test.YtdhahiodnmmkeaaGreatDoorRowCap
import Derived.Test.YtdhahiodnmmkeaaGreatDoorGlyphML
import Derived.Test.YtdhahiodnmmkeaaGreatDoorExfW
/- The walk of the law FtextCalls. -/
namespace Go.Proofs.YtdhahiodnmmkeaaGreatDoor.Va
open Go Go.RowKit GM
set_option linter.unusedVariables false
set_option linter.unusedSimpArgs false
set_option maxRecDepth 100000 in
set_option maxHeartbeats 12800000 in
theorem zki (fn : Nat) (a : Option Addr) (n cap : Nat) (L : List V3) (hc : n ≤ cap) (w : World) (hL : IsV w a n L) (hv : ∀ v ∈ L, v.2.2.size ≤ maxLen ∧ InI v.2.1) (hT : Tb w) (hM : ML w) :
 Calls Tryz.prog 13 #[.int .u8 (fn : Int), .slice a n cap] w fun e w' => e = .returned (.bool true) ∧ Below w.heap.size w w' := by
 have HT := Lib.hid hT
 have HFW := Lib.hid (fun W (hB : Below w.heap.size w W) => yeh a n cap L hc W (IsOf.later hL hB) (fun v h => (hv v h).1))
 have hML : ∀ v ∈ fewL L, v.2.2.size ≤ 2000 ∧ InI v.2.1 := fun v h => ⟨Nat.le_trans (yei h) (by decide), yej (fun u hu => (hv u hu).2) h⟩
 have hMn : (fewL L).length ≤ 20 := by rw [zy6]; exact Nat.min_le_right _ _
 clear hL hv
 generalize fewL L = M at *
 have HPC := Lib.hid (fun a cap W (hB : Below w.heap.size w W) (h : IsV W a M.length M) => zu4 fn a M.length cap M W h (fun v hv => ⟨Nat.le_trans (hML v hv).1 (by unfold maxLen; decide), (hML v hv).2⟩) (HT.out.later hB) (hM.later hB))
 have HRC := Lib.hid (fun a cap W (hB : Below w.heap.size w W) (h : IsV W a M.length M) => zu0 fn a M.length cap M W h hMn hML (HT.out.later hB))
 have HEQ := Lib.hid (fun a a' cap cap' W (h1 : IsV W a M.length M) (h2 : IsV W a' M.length M) => yeo a a' M.length cap cap' M (by omega) W h1 h2)
 have HAW := Lib.hid (fun W (hB : Below w.heap.size w W) => zw3 W (HT.out.later hB))
 generalize callV fn M = res at *
 obtain ⟨⟨rk, rn, rs⟩, re⟩ := res
 unfold vOf at HPC HRC
 dsimp only at HPC HRC
 clear hML hT
 go_enter Tryz.func13, Tryz.ntmps13
 go_wp2_with fail
 refine (HFW.out _ (Below.refl _ _)).mono ?_
 rintro e w1 ⟨⟨v1, rfl, hO1⟩, hB1⟩
 obtain ⟨a1, c1, rfl, hI1⟩ := hO1.isOf zav
 have HB1 := Lib.hid hB1
 have HI1 := Lib.hid hI1
 clear hO1 hB1 hI1
 go_wp2_with fail
 refine (HPC.out _ _ _ HB1.out HI1.out).mono ?_
 rintro e w2 ⟨rfl, hB2⟩
 have HX2 := Lib.hid (B3.start w2 rk rn rs)
 have l2 := zaa w2 (.cells #[.int .u8 (rk : Int), .int .i64 rn, .string rs] 26)
 have HB2 := Lib.hid (zab HB1.out (zab hB2 l2))
 have HI2 := Lib.hid (HI1.out.later (zab hB2 l2))
 clear hB2 l2 HB1 HI1
 go_upto_region 3 with fail
 generalize w2.alloc (.cells #[.int .u8 (rk : Int), .int .i64 rn, .string rs] 26) = w3 at *
 have hx2 := HX2.out.lt
 go_wp2_with fail
 refine (HFW.out _ HB2.out).mono ?_
 rintro e w4 ⟨⟨v4, rfl, hO4⟩, hB4⟩
 obtain ⟨a4, c4, rfl, hI4⟩ := hO4.isOf zav
 have HB4 := Lib.hid (zab HB2.out hB4)
 have HI4 := Lib.hid hI4
 have HX4 := Lib.hid (HX2.out.later hB4)
 have HJ4 := Lib.hid (HI2.out.later hB4)
 clear hO4 hB4 hI4 HB2 HI2 HX2 hx2
 go_wp2_with fail
 refine (HRC.out _ _ _ HB4.out HI4.out).mono ?_
 rintro e w5 ⟨rfl, hB5⟩
 have HY5 := Lib.hid (B3.start w5 rk rn rs)
 have l5 := zaa w5 (.cells #[.int .u8 (rk : Int), .int .i64 rn, .string rs] 26)
 have HB5 := Lib.hid (zab HB4.out (zab hB5 l5))
 have HX5 := Lib.hid (HX4.out.later (zab hB5 l5))
 have HI5 := Lib.hid (HJ4.out.later (zab hB5 l5))
 clear hB5 l5 HB4 HI4 HX4 HJ4
 go_upto_region 4 with fail
 generalize w5.alloc (.cells #[.int .u8 (rk : Int), .int .i64 rn, .string rs] 26) = w6 at *
 obtain ⟨x0, x1, x2, _, _, _⟩ := HX5.out.cells
 obtain ⟨y0, y1, y2, _, _, _⟩ := HY5.out.cells
 have hx5 := HX5.out.lt
 have hy5 := HY5.out.lt
 go_wp2_with fail
 refine (HFW.out _ HB5.out).mono ?_
 rintro e w7 ⟨⟨v7, rfl, hO7⟩, hB7⟩
 obtain ⟨a7, c7, rfl, hI7⟩ := hO7.isOf zav
 have HB7 := Lib.hid (zab HB5.out hB7)
 have HI7 := Lib.hid hI7
 have HJ7 := Lib.hid (HI5.out.later hB7)
 clear hO7 hB7 hI7 HB5 HI5 x0 x1 x2 y0 y1 y2 hx5 hy5
 go_wp2_with fail
 refine (HEQ.out _ _ _ _ _ HJ7.out HI7.out).mono ?_
 rintro e w8 ⟨rfl, hB8⟩
 have HB8 := Lib.hid (zab HB7.out hB8)
 clear hB8
 go_wp2_with fail
 refine (HAW.out _ HB8.out).mono ?_
 rintro e w9 ⟨rfl, hB9⟩
 have HB9 := Lib.hid (zab HB8.out hB9)
 clear hB9
 go_wp2_with fail
 go_ret
 exact ⟨rfl, HB9.out⟩
end Go.Proofs.YtdhahiodnmmkeaaGreatDoor.Va
/- The law FtextExamples, from any world. -/
namespace Go.Proofs.YtdhahiodnmmkeaaGreatDoor.Va
open Go Go.RowKit GM
set_option linter.unusedVariables false
theorem ftextExamples_law (w : World) (hl : laidMetH Tryz.prog Rows.ftextExamplesRow.laid w) (hM : ML w) : Calls Tryz.prog 4 #[] w fun e w' => e = .returned (.bool true) ∧ Below w.heap.size w w' := by
 have hT : Tb w := yhc (MakeChecks.laidMetH_plain _ _ _ (by kernel_rfl)) hl
 refine zh0 w (fun fn L v W hk hB hv => ?_) (fun W hB => zw3 W (hT.later hB))
 obtain ⟨a, c, rfl, hI, hc⟩ := hv
 exact (zki fn a L.length c L hc W hI (zym hk) (hT.later hB) (hM.later hB)).mono fun _ _ => retT
end Go.Proofs.YtdhahiodnmmkeaaGreatDoor.Va
