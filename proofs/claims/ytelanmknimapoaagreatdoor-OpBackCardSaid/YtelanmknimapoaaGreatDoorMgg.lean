/- Merged: AddrD RectE. -/
import Derived.Test.YtelanmknimapoaaGreatDoorAddrC
import Derived.Test.YtelanmknimapoaaGreatDoorMgf
import Derived.Test.YtelanmknimapoaaGreatDoorTab
import Derived.Lib.ItoaLen
import Derived.Test.YtelanmknimapoaaGreatDoorRectC
/- What addr.Format and the specification's Letters, Digits and Format return, for every address. -/
namespace Go.Proofs.YtelanmknimapoaaGreatDoor.Re
open Go.RowKit AM
open Go.Sort (grow)
theorem ztg (w : World) (k : Nat) : (w.drewN k).heap = w.heap ∧ (w.drewN k).os = w.os ∧ (w.drewN k).tape = w.tape ∧ (w.drewN k).output = w.output := by
 induction k generalizing w with
 | zero => exact ⟨rfl, rfl, rfl, rfl⟩
 | succ k ih => exact ih w.drew
theorem below_grow (w : World) (k : Nat) (os : Array Obj) : Below w.heap.size w (grow (w.drewN k) os) := by
 obtain ⟨h1, h2, h3, h4⟩ := ztg w k
 refine ⟨h2, h3, h4, by simp [grow], fun b hb => ?_⟩
 show ((w.drewN k).heap ++ os)[b]? = _
 rw [h1]
 exact Array.getElem?_append_left hb
theorem zk6 (r : Int) (h0 : 1 ≤ r) (h1 : r ≤ 1024) : (Lib.itoa r).length ≤ 20 := by
 obtain ⟨n, rfl⟩ := Int.eq_ofNat_of_zero_le (show 0 ≤ r by omega)
 rw [Lib.itoa_nonneg, Lib.decDigits_length]
 exact Lib.nDigits_le20 n (by omega)
set_option maxRecDepth 100000 in
set_option maxHeartbeats 1600000 in
theorem ztc (c r : Int) (h : okR c r = true) (w : World) (hp : Pow w) :
 Calls Tryz.prog 71 #[.agg #[.int .i64 c, .int .i64 r]] w fun e w' => e = .returned (.tuple #[.string ⟨(fmtL c r).toArray⟩, .int .i64 0]) ∧ Below w.heap.size w w' := by
 have HK := Lib.hid h
 obtain ⟨h1, h2, h3, h4⟩ := zvj h
 have HP := Lib.hid hp
 clear h hp
 go_enter Tryz.func71, Tryz.ntmps71
 go_wp2_with fail
 refine (valid_any _ _ _).mono ?_
 rintro e w1 ⟨rfl, hB⟩
 rw [HK.out]
 obtain ⟨hc, hf⟩ := bcell hB
 simp at hc hf
 have c0 : w1.cell? ⟨w.heap.size, 0, none⟩ = some (.int .i64 c) := by rw [hc _ _ (by simp)]; simp
 have c1 : w1.cell? ⟨w.heap.size, 1, none⟩ = some (.int .i64 r) := by rw [hc _ _ (by simp)]; simp
 have hz : w.heap.size < w1.heap.size := by have := hB.size; simp at this; omega
 clear hc hf
 go_wp2_with fail
 refine (zpj c h1 h2 _).mono ?_
 rintro e w2 ⟨rfl, hB2⟩
 obtain ⟨hc, hf⟩ := bcell hB2
 have d1 : w2.cell? ⟨w.heap.size, 1, none⟩ = some (.int .i64 r) := by rw [hc _ _ hz]; exact c1
 have hB2' : Below w.heap.size w w2 := (Below.next ((Below.refl _ _).alloc (Nat.le_refl _) _) hB).trans (hB2.mono (by omega))
 clear hc hf
 go_wp2_with fail
 refine (Tryz.strconv_Itoa r (by omega) (by omega) _ (HP.out.later hB2')).mono ?_
 rintro e w3 ⟨rfl, hB3⟩
 have hB3' : Below w.heap.size w w3 := by
  obtain ⟨k, os, rfl⟩ := hB3
  exact hB2'.trans ((below_grow w2 k os).mono hB2'.size)
 clear hB3
 have hadd := fun W => run_string_add_sum (P := Tryz.prog) W (strOfNums (ze8 c)) ⟨(Lib.itoa r).toArray⟩ (by
  have h1 := zrj c
  have h2 := zk6 r (by omega) (by omega)
  rw [strOfNums_size]; simp [ByteArray.size]; omega)
 go_wp2_with fail
 go_ret2
 refine ⟨retS ?_, hB3'⟩
 rw [yb1]
 rfl
end Go.Proofs.YtelanmknimapoaaGreatDoor.Re
/- Contracts of rect.Format, and the fixed ranges of the statements. -/
namespace Go.Proofs.YtelanmknimapoaaGreatDoor.Re
open Go.RowKit AM
def fmtR (a b c d : Int) : List UInt8 := if a = c ∧ b = d then fmtL a b else fmtL a b ++ [58] ++ fmtL c d
theorem zmm {a b : Int} (h : okR a b = true) : (fmtL a b).length ≤ 23 := by
 have h1 := zrj a
 obtain ⟨_, _, h3, h4⟩ := zvj h
 have h2 := zk6 b h3 h4
 simp [fmtL, lets]; omega
def FmtC (w : World) (a b : Int) : Prop := ∀ W, Below w.heap.size w W → Calls Tryz.prog 71 #[.agg #[.int .i64 a, .int .i64 b]] W fun e w' => e = .returned (.tuple #[.string ⟨(fmtL a b).toArray⟩, .int .i64 0]) ∧ Below W.heap.size W w'
theorem str_cat (a b : List UInt8) (W : World) (h : a.length + b.length ≤ 1000) : (Op.stringOp .add ⟨a.toArray⟩ ⟨b.toArray⟩).run Tryz.prog W = .ok (.string ⟨(a ++ b).toArray⟩) W := by
 rw [run_string_add_sum W _ _ (by simp [ByteArray.size]; omega)]
 rfl
set_option maxRecDepth 100000 in
set_option maxHeartbeats 1600000 in
theorem zxx (a b c d : Int) (hk : ckB a b c d = true) (w : World) (f1 : FmtC w a b) (f2 : FmtC w c d) :
 Calls Tryz.prog 41 #[.agg #[.int .i64 a, .int .i64 b, .int .i64 c, .int .i64 d]] w fun e w' => e = .returned (.tuple #[.string ⟨(fmtR a b c d).toArray⟩, .int .i64 0]) ∧ Below w.heap.size w w' := by
 have HK := Lib.hid (yh4 hk)
 have hq := ckB_iff.1 hk
 have L1 := Lib.hid (zmm (zi8 hq.1))
 have L2 := Lib.hid (zmm (zi8 hq.2.1))
 have F1 := Lib.hid f1
 have F2 := Lib.hid f2
 have hFR : Hid (fmtR a b c d = if a = c ∧ b = d then fmtL a b else fmtL a b ++ [58] ++ fmtL c d) := rfl
 clear hk hq f1 f2
 go_enter Tryz.func41, Tryz.ntmps41
 go_wp2_with fail
 refine (rcheck_any a b c d _).mono ?_
 rintro e w1 ⟨rfl, hB1⟩
 rw [HK.out]
 have FA := Lib.hid ((Four.start w a b c d 23).later hB1)
 have B1 := Lib.hid (Below.next (below_alloc w _) hB1)
 obtain ⟨_, g1, g2, g3, g4⟩ := FA.out
 clear hB1
 go_wp2_with fail
 refine (zhi a b c d _).mono ?_
 rintro e w2 ⟨rfl, hB2⟩
 have B2 := Lib.hid (Below.next B1.out hB2)
 have l1 := below_alloc w2 (.cells #[.int .i64 a, .int .i64 b] 98)
 have l2 := below_alloc (w2.alloc (.cells #[.int .i64 a, .int .i64 b] 98)) (.cells #[.int .i64 c, .int .i64 d] 98)
 have T1 := (Two'.start w2 a b 98).later l2
 have T2 := Two'.start (w2.alloc (.cells #[.int .i64 a, .int .i64 b] 98)) c d 98
 rw [zb3] at T2
 have T1 := Lib.hid T1
 have T2 := Lib.hid T2
 have B2' := Lib.hid (Below.next (Below.next B2.out l1) l2)
 clear g1 g2 g3 g4 l1 l2 hB2
 go_wp2_with fail
 refine (F1.out _ B2'.out).mono ?_
 rintro e w3 ⟨rfl, hB3⟩
 have T1' := Lib.hid (T1.out.later hB3)
 have T2' := Lib.hid (T2.out.later hB3)
 have B3 := Lib.hid (Below.next B2'.out hB3)
 obtain ⟨_, g1, g2⟩ := T1'.out
 obtain ⟨_, g3, g4⟩ := T2'.out
 clear hB3
 by_cases h1 : a = c
 · by_cases h2 : b = d
   · have E : Hid (fmtR a b c d = fmtL a b) := by unfold Hid; rw [hFR.out, if_pos ⟨h1, h2⟩]
     have e1 : (a == c) = true := by simpa using h1
     have e2 : (b == d) = true := by simpa using h2
     clear h1 h2
     go_wp2_with fail
     go_ret2
     exact ⟨retS (by rw [E.out]), B3.out⟩
   · have E : Hid (fmtR a b c d = fmtL a b ++ [58] ++ fmtL c d) := by unfold Hid; rw [hFR.out, if_neg (fun h => h2 h.2)]
     have e1 : (a == c) = true := by simpa using h1
     have e2 : (b == d) = false := by simpa using h2
     clear h1 h2
     go_wp2_with fail
     refine (F2.out _ B3.out).mono ?_
     rintro e w4 ⟨rfl, hB4⟩
     have k1 := fun W => str_cat (fmtL a b) [58] W (by have := L1.out; simp; omega)
     have k2 := fun W => str_cat (fmtL a b ++ [58]) (fmtL c d) W (by have := L1.out; have := L2.out; simp; omega)
     go_wp2_with fail
     go_ret2
     exact ⟨retS (by rw [E.out]; simp), Below.next B3.out hB4⟩
 · have E : Hid (fmtR a b c d = fmtL a b ++ [58] ++ fmtL c d) := by unfold Hid; rw [hFR.out, if_neg (fun h => h1 h.1)]
   have e1 : (a == c) = false := by simpa using h1
   clear h1
   go_wp2_with fail
   refine (F2.out _ B3.out).mono ?_
   rintro e w4 ⟨rfl, hB4⟩
   have k1 := fun W => str_cat (fmtL a b) [58] W (by have := L1.out; simp; omega)
   have k2 := fun W => str_cat (fmtL a b ++ [58]) (fmtL c d) W (by have := L1.out; have := L2.out; simp; omega)
   go_wp2_with fail
   go_ret2
   exact ⟨retS (by rw [E.out]; simp), Below.next B3.out hB4⟩
theorem ycc (a b c d : Int) (hk : ckB a b c d = false) (w : World) :
 Calls Tryz.prog 41 #[.agg #[.int .i64 a, .int .i64 b, .int .i64 c, .int .i64 d]] w fun e w' => e = .returned (.tuple #[.string ⟨#[]⟩, .int .i64 3]) ∧ Below w.heap.size w w' := by
 have HK := Lib.hid (yh5 hk)
 clear hk
 go_enter Tryz.func41, Tryz.ntmps41
 go_wp2_with fail
 refine (rcheck_any a b c d _).mono ?_
 rintro e w1 ⟨rfl, hB1⟩
 rw [HK.out]
 go_wp2_with fail
 go_ret2
 exact ⟨rfl, Below.next (below_alloc w _) hB1⟩
end Go.Proofs.YtelanmknimapoaaGreatDoor.Re
