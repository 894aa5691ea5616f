/- The contract of the specification's writing of a range. -/
import Derived.Test.YtelanmknimapoaaGreatDoorRectE
import Derived.Test.YtelanmknimapoaaGreatDoorRectRef
import Derived.Test.YtelanmknimapoaaGreatDoorAddrMathC
namespace Go.Proofs.YtelanmknimapoaaGreatDoor.Re
open Go.RowKit AM
theorem fmtL_inj {a b c d : Int} (h1 : okR a b = true) (h2 : okR c d = true) (h : fmtL a b = fmtL c d) : a = c ∧ b = d := by
  have e1 := PZ_fwd h1
  have e2 := PZ_fwd h2
  unfold fmtL at h
  rw [h, e2] at e1
  simp only [Prod.mk.injEq, and_true] at e1
  exact ⟨e1.1.symm, e1.2.symm⟩
set_option maxRecDepth 100000 in
set_option maxHeartbeats 1600000 in
theorem qfmt_yes (a b c d : Int) (hk : ckB a b c d = true) (w : World) :
    Calls Tryz.prog 51 #[.agg #[.int .i64 a, .int .i64 b, .int .i64 c, .int .i64 d]] w fun e w' => e = .returned (.tuple #[.string ⟨(fmtR a b c d).toArray⟩, .int .i64 0]) ∧ Below w.heap.size w w' := by
  have HK := Lib.hid (ckE_t hk)
  have hq := ckB_iff.1 hk
  have O1 := Lib.hid (okR_t hq.1)
  have O2 := Lib.hid (okR_t hq.2.1)
  have L1 := Lib.hid (fmtL_le O1.out)
  have L2 := Lib.hid (fmtL_le O2.out)
  have hFR : Hid (fmtR a b c d = if a = c ∧ b = d then fmtL a b else fmtL a b ++ [58] ++ fmtL c d) := rfl
  clear hk hq
  go_enter Tryz.func51, Tryz.ntmps51
  go_wp2_with fail
  refine (qcheck_any a b c d _).mono ?_
  rintro e w1 ⟨rfl, hB1⟩
  rw [HK.out]
  have FA := Lib.hid ((Four.start w a b c d 23).later hB1)
  have B1 := Lib.hid (Below.next (below_alloc w _) hB1)
  obtain ⟨_, g1, g2, g3, g4⟩ := FA.out
  clear hB1
  go_wp2_with fail
  refine (qfrom_any a b c d _).mono ?_
  rintro e w2 ⟨rfl, hB2⟩
  have F2 := Lib.hid (FA.out.later hB2)
  have B2 := Lib.hid (Below.next B1.out hB2)
  clear g1 g2 g3 g4 hB2
  go_wp2_with fail
  refine (rformat_yes a b O1.out _).mono ?_
  rintro e w3 ⟨rfl, hB3⟩
  have F3 := Lib.hid (F2.out.later hB3)
  have B3 := Lib.hid (Below.next B2.out hB3)
  clear hB3
  obtain ⟨_, g1, g2, g3, g4⟩ := F3.out
  go_wp2_with fail
  refine (qto_any a b c d _).mono ?_
  rintro e w4 ⟨rfl, hB4⟩
  have B4 := Lib.hid (Below.next B3.out hB4)
  clear g1 g2 g3 g4 hB4
  go_wp2_with fail
  refine (rformat_yes c d O2.out _).mono ?_
  rintro e w5 ⟨rfl, hB5⟩
  have B5 := Lib.hid (Below.next B4.out hB5)
  clear hB5
  by_cases h : fmtL a b = fmtL c d
  · have E : Hid (fmtR a b c d = fmtL a b) := by unfold Hid; rw [hFR.out, if_pos (fmtL_inj O1.out O2.out h)]
    have H := Lib.hid h
    clear h
    rw [← H.out]
    go_wp2_with fail
    go_ret2
    exact ⟨retS (by rw [E.out]), B5.out⟩
  · have E : Hid (fmtR a b c d = fmtL a b ++ [58] ++ fmtL c d) := by unfold Hid; rw [hFR.out, if_neg (fun h' => h (by rw [h'.1, h'.2]))]
    have e1 : (fmtL a b == fmtL c d) = false := by simpa using h
    have k1 := fun W => str_cat (fmtL a b) [58] W (by have := L1.out; simp; omega)
    have k2 := fun W => str_cat (fmtL a b ++ [58]) (fmtL c d) W (by have := L1.out; have := L2.out; simp; omega)
    clear h
    go_wp2_with fail
    go_ret2
    exact ⟨retS (by rw [E.out]; simp), B5.out⟩
theorem qfmt_no (a b c d : Int) (hk : ckB a b c d = false) (w : World) :
    Calls Tryz.prog 51 #[.agg #[.int .i64 a, .int .i64 b, .int .i64 c, .int .i64 d]] w fun e w' => e = .returned (.tuple #[.string ⟨#[]⟩, .int .i64 3]) ∧ Below w.heap.size w w' := by
  have HK := Lib.hid (ckE_f hk)
  clear hk
  go_enter Tryz.func51, Tryz.ntmps51
  go_wp2_with fail
  refine (qcheck_any a b c d _).mono ?_
  rintro e w1 ⟨rfl, hB1⟩
  rw [HK.out]
  go_wp2_with fail
  go_ret2
  exact ⟨rfl, Below.next (below_alloc w _) hB1⟩
end Go.Proofs.YtelanmknimapoaaGreatDoor.Re
