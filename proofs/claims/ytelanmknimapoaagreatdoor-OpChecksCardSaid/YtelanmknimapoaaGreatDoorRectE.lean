/- Contracts of rect.Format, and the fixed ranges of the statements. -/
import Derived.Test.YtelanmknimapoaaGreatDoorRectC
import Derived.Test.YtelanmknimapoaaGreatDoorAddrD
namespace Go.Proofs.YtelanmknimapoaaGreatDoor.Re
open Go.RowKit AM
/-- What a range is written as. -/
def fmtR (a b c d : Int) : List UInt8 := if a = c ∧ b = d then fmtL a b else fmtL a b ++ [58] ++ fmtL c d
theorem fmtL_le {a b : Int} (h : okR a b = true) : (fmtL a b).length ≤ 23 := by
  have h1 := letsN_le a
  obtain ⟨_, _, h3, h4⟩ := okR_i h
  have h2 := itoa_short b h3 h4
  simp [fmtL, lets]; omega
def FmtC (w : World) (a b : Int) : Prop := ∀ W, Below w.heap.size w W → Calls Tryz.prog 71 #[.agg #[.int .i64 a, .int .i64 b]] W fun e w' => e = .returned (.tuple #[.string ⟨(fmtL a b).toArray⟩, .int .i64 0]) ∧ Below W.heap.size W w'
theorem str_cat (a b : List UInt8) (W : World) (h : a.length + b.length ≤ 1000) : (Op.stringOp .add ⟨a.toArray⟩ ⟨b.toArray⟩).run Tryz.prog W = .ok (.string ⟨(a ++ b).toArray⟩) W := by
  rw [run_string_add_sum W _ _ (by simp [ByteArray.size]; omega)]
  rfl
set_option maxRecDepth 100000 in
set_option maxHeartbeats 1600000 in
theorem rfmt_yes (a b c d : Int) (hk : ckB a b c d = true) (w : World) (f1 : FmtC w a b) (f2 : FmtC w c d) :
    Calls Tryz.prog 41 #[.agg #[.int .i64 a, .int .i64 b, .int .i64 c, .int .i64 d]] w fun e w' => e = .returned (.tuple #[.string ⟨(fmtR a b c d).toArray⟩, .int .i64 0]) ∧ Below w.heap.size w w' := by
  have HK := Lib.hid (ckE_t hk)
  have hq := ckB_iff.1 hk
  have L1 := Lib.hid (fmtL_le (okR_t hq.1))
  have L2 := Lib.hid (fmtL_le (okR_t hq.2.1))
  have F1 := Lib.hid f1
  have F2 := Lib.hid f2
  have hFR : Hid (fmtR a b c d = if a = c ∧ b = d then fmtL a b else fmtL a b ++ [58] ++ fmtL c d) := rfl
  clear hk hq f1 f2
  go_enter Tryz.func41, Tryz.ntmps41
  go_wp2_with fail
  refine (rcheck_any a b c d _).mono ?_
  rintro e w1 ⟨rfl, hB1⟩
  rw [HK.out]
  have FA := Lib.hid ((Four.start w a b c d 23).later hB1)
  have B1 := Lib.hid (Below.next (below_alloc w _) hB1)
  obtain ⟨_, g1, g2, g3, g4⟩ := FA.out
  clear hB1
  go_wp2_with fail
  refine (rcorners_any a b c d _).mono ?_
  rintro e w2 ⟨rfl, hB2⟩
  have B2 := Lib.hid (Below.next B1.out hB2)
  have l1 := below_alloc w2 (.cells #[.int .i64 a, .int .i64 b] 98)
  have l2 := below_alloc (w2.alloc (.cells #[.int .i64 a, .int .i64 b] 98)) (.cells #[.int .i64 c, .int .i64 d] 98)
  have T1 := (Two'.start w2 a b 98).later l2
  have T2 := Two'.start (w2.alloc (.cells #[.int .i64 a, .int .i64 b] 98)) c d 98
  rw [alloc_size] at T2
  have T1 := Lib.hid T1
  have T2 := Lib.hid T2
  have B2' := Lib.hid (Below.next (Below.next B2.out l1) l2)
  clear g1 g2 g3 g4 l1 l2 hB2
  go_wp2_with fail
  refine (F1.out _ B2'.out).mono ?_
  rintro e w3 ⟨rfl, hB3⟩
  have T1' := Lib.hid (T1.out.later hB3)
  have T2' := Lib.hid (T2.out.later hB3)
  have B3 := Lib.hid (Below.next B2'.out hB3)
  obtain ⟨_, g1, g2⟩ := T1'.out
  obtain ⟨_, g3, g4⟩ := T2'.out
  clear hB3
  by_cases h1 : a = c
  · by_cases h2 : b = d
    · have E : Hid (fmtR a b c d = fmtL a b) := by unfold Hid; rw [hFR.out, if_pos ⟨h1, h2⟩]
      have e1 : (a == c) = true := by simpa using h1
      have e2 : (b == d) = true := by simpa using h2
      clear h1 h2
      go_wp2_with fail
      go_ret2
      exact ⟨retS (by rw [E.out]), B3.out⟩
    · have E : Hid (fmtR a b c d = fmtL a b ++ [58] ++ fmtL c d) := by unfold Hid; rw [hFR.out, if_neg (fun h => h2 h.2)]
      have e1 : (a == c) = true := by simpa using h1
      have e2 : (b == d) = false := by simpa using h2
      clear h1 h2
      go_wp2_with fail
      refine (F2.out _ B3.out).mono ?_
      rintro e w4 ⟨rfl, hB4⟩
      have k1 := fun W => str_cat (fmtL a b) [58] W (by have := L1.out; simp; omega)
      have k2 := fun W => str_cat (fmtL a b ++ [58]) (fmtL c d) W (by have := L1.out; have := L2.out; simp; omega)
      go_wp2_with fail
      go_ret2
      exact ⟨retS (by rw [E.out]; simp), Below.next B3.out hB4⟩
  · have E : Hid (fmtR a b c d = fmtL a b ++ [58] ++ fmtL c d) := by unfold Hid; rw [hFR.out, if_neg (fun h => h1 h.1)]
    have e1 : (a == c) = false := by simpa using h1
    clear h1
    go_wp2_with fail
    refine (F2.out _ B3.out).mono ?_
    rintro e w4 ⟨rfl, hB4⟩
    have k1 := fun W => str_cat (fmtL a b) [58] W (by have := L1.out; simp; omega)
    have k2 := fun W => str_cat (fmtL a b ++ [58]) (fmtL c d) W (by have := L1.out; have := L2.out; simp; omega)
    go_wp2_with fail
    go_ret2
    exact ⟨retS (by rw [E.out]; simp), Below.next B3.out hB4⟩
theorem rfmt_no (a b c d : Int) (hk : ckB a b c d = false) (w : World) :
    Calls Tryz.prog 41 #[.agg #[.int .i64 a, .int .i64 b, .int .i64 c, .int .i64 d]] w fun e w' => e = .returned (.tuple #[.string ⟨#[]⟩, .int .i64 3]) ∧ Below w.heap.size w w' := by
  have HK := Lib.hid (ckE_f hk)
  clear hk
  go_enter Tryz.func41, Tryz.ntmps41
  go_wp2_with fail
  refine (rcheck_any a b c d _).mono ?_
  rintro e w1 ⟨rfl, hB1⟩
  rw [HK.out]
  go_wp2_with fail
  go_ret2
  exact ⟨rfl, Below.next (below_alloc w _) hB1⟩
end Go.Proofs.YtelanmknimapoaaGreatDoor.Re
