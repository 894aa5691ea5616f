/- Entries that are valid; both sides. -/
import Derived.Test.YtndijajaddkbhaaEvC
import Derived.Test.YtndijajaddkbhaaOpA
import Derived.Test.YtndijajaddkbhaaGraB
namespace Go.Proofs.Ytndijajaddkbhaa.Re
open Go.RowKit AM
def cE (n : Nat) (g : EV) : Int := if mutB g.kd.toNat = true then (if hasB (allW n) g.us = true then (if ckB g.c1 g.r1 g.c2 g.r2 = true then (if winB g.tos n = true then (if hasB g.tos g.us = true then 0 else 2) else 2) else 3) else 2) else 2
def ndB (x : Int) : Bool := decide (0 ≤ x ∧ x < 256)
def giB (x : Int) : Bool := decide (0 ≤ x ∧ x < 64)
def lE (n : Nat) (g : LV) : Int := if okR g.ac g.ar = true then (if ckB g.c1 g.r1 g.c2 g.r2 = true then (if (ndB g.nd && (relB g.fn.toNat && (giB g.gr && winB g.tos n))) = true then 0 else 2) else 3) else 3
theorem retZ {a b : Int} (h : a = b) : Ending.returned (.int .i64 a) = .returned (.int .i64 b) := by rw [h]
set_option maxRecDepth 100000 in
set_option maxHeartbeats 6400000 in
theorem pcE_any (n : Nat) (g : EV) (w : World) :
    Calls Try.prog 89 #[.agg (cellsEV g).toArray, .int .u64 ((allW n).toNat : Int)] w fun e w' => e = .returned (.int .i64 (cE n g)) ∧ Below w.heap.size w w' := by
  have HBX := Lib.hid (BoxEV.start w g 84)
  have HB := Lib.hid (below_alloc w (.cells (cellsEV g).toArray 84))
  have HC : Hid (cE n g = if mutB g.kd.toNat = true then (if hasB (allW n) g.us = true then (if ckB g.c1 g.r1 g.c2 g.r2 = true then (if winB g.tos n = true then (if hasB g.tos g.us = true then 0 else 2) else 2) else 3) else 2) else 2) := rfl
  have HMU : Hid (∀ W, Calls Try.prog 101 #[.agg #[.int .u8 (g.kd.toNat : Int), .int .i64 0, .int .i64 0, .int .i64 0, .int .i64 0, .int .i64 0, .string ⟨#[]⟩, .int .u64 0, .int .u64 0, .int .u64 0, .int .u8 0, .int .u64 0, .int .i64 0]] W fun e w' => e = .returned (.bool (mutB g.kd.toNat)) ∧ Below W.heap.size W w') := fun W => pmut_any ⟨g.kd, 0, 0, 0, 0, 0, ⟨#[]⟩, 0#64, 0#64, 0#64, 0#8, 0#64, 0⟩ W
  have HW := Lib.hid (winB_eq g.tos n)
  have HHA := Lib.hid (has_any (allW n) g.us)
  have HHB := Lib.hid (has_any g.tos g.us)
  generalize mutB g.kd.toNat = m at *
  generalize hasB (allW n) g.us = ha at *
  generalize hasB g.tos g.us = hb at *
  generalize winB g.tos n = wi at *
  generalize cE n g = E at *
  obtain ⟨x1, x2, x3, x4, x5, x6, x7, x8, x9⟩ := g
  unfold cellsEV at *
  dsimp only at *
  obtain ⟨_, d1, d2, d3, d4, d5, d6, d7, d8, d9⟩ := HBX.out
  dsimp only at d1 d2 d3 d4 d5 d6 d7 d8 d9
  go_enter Try.func89, Try.ntmps89
  go_wp2_with fail
  clear d1 d2 d3 d4 d5 d6 d7 d8 d9
  generalize w.alloc (.cells #[.int .i64 x1, .int .i64 x2, .int .u8 (x3.toNat : Int), .int .i64 x4, .int .i64 x5, .int .i64 x6, .int .i64 x7, .bool x8, .int .u64 (x9.toNat : Int)] 84) = wa at *
  refine (HMU.out _).mono ?_
  rintro e w1 ⟨rfl, hB1⟩
  have HX1 := Lib.hid (HBX.out.later hB1)
  have HB1 := Lib.hid (Below.next HB.out hB1)
  clear hB1 HBX HB HMU
  obtain ⟨_, d1, d2, d3, d4, d5, d6, d7, d8, d9⟩ := HX1.out
  dsimp only at d1 d2 d3 d4 d5 d6 d7 d8 d9
  cases m
  · rw [if_neg (by decide)] at HC
    go_wp2_with fail
    go_ret
    exact ⟨retZ HC.out.symm, HB1.out⟩
  rw [if_pos rfl] at HC
  go_wp2_with fail
  refine (HHA.out _).mono ?_
  rintro e w2 ⟨rfl, rfl⟩
  cases ha
  · rw [if_neg (by decide)] at HC
    go_wp2_with fail
    go_ret
    exact ⟨retZ HC.out.symm, HB1.out⟩
  rw [if_pos rfl] at HC
  go_wp2_with fail
  refine (rcheck_any x4 x5 x6 x7 _).mono ?_
  rintro e w2 ⟨rfl, hB2⟩
  have HX2 := Lib.hid (HX1.out.later hB2)
  have HB2 := Lib.hid (Below.next HB1.out hB2)
  clear hB2 HX1 HB1 d1 d2 d3 d4 d5 d6 d7 d8 d9
  obtain ⟨_, d1, d2, d3, d4, d5, d6, d7, d8, d9⟩ := HX2.out
  dsimp only at d1 d2 d3 d4 d5 d6 d7 d8 d9
  cases hck : ckB x4 x5 x6 x7
  · rw [ckE_f hck]
    rw [hck, if_neg (by decide)] at HC
    clear hck
    go_wp2_with fail
    go_ret
    exact ⟨retZ HC.out.symm, HB2.out⟩
  rw [ckE_t hck]
  rw [hck, if_pos rfl] at HC
  clear hck
  cases wi
  · rw [if_neg (by decide)] at HC
    have q3 := HW.out
    have q4 : (bits .andNot .u64 (x9.toNat : Int) ((allW n).toNat : Int) != 0) = true := by rw [bne, q3]; rfl
    go_wp2_with fail
    go_ret
    exact ⟨retZ HC.out.symm, HB2.out⟩
  rw [if_pos rfl] at HC
  have q3 := HW.out
  have q4 : (bits .andNot .u64 (x9.toNat : Int) ((allW n).toNat : Int) != 0) = false := by rw [bne, q3]; rfl
  go_wp2_with fail
  refine (HHB.out _).mono ?_
  rintro e w3 ⟨rfl, rfl⟩
  cases hb
  · rw [if_neg (by decide)] at HC
    go_wp2_with fail
    go_ret
    exact ⟨retZ HC.out.symm, HB2.out⟩
  · rw [if_pos rfl] at HC
    go_wp2_with fail
    go_ret
    exact ⟨retZ HC.out.symm, HB2.out⟩
def evE (n : Nat) (b : Int) (g : EV) : Int := if g.st ≤ b then 12 else cE n g
set_option maxRecDepth 100000 in
set_option maxHeartbeats 6400000 in
theorem scE_any (n : Nat) (hn : n ≤ 64) (b : Int) (g : EV) (w : World) :
    Calls Try.prog 91 #[.int .i64 (n : Int), .int .i64 b, .agg (cellsEV g).toArray] w fun e w' => e = .returned (.int .i64 (evE n b g)) ∧ Below w.heap.size w w' := by
  have HBX := Lib.hid (BoxEV.start w g 84)
  have HB := Lib.hid (below_alloc w (.cells (cellsEV g).toArray 84))
  have HV : Hid (evE n b g = if g.st ≤ b then 12 else cE n g) := rfl
  have HC : Hid (cE n g = if mutB g.kd.toNat = true then (if hasB (allW n) g.us = true then (if ckB g.c1 g.r1 g.c2 g.r2 = true then (if winB g.tos n = true then (if hasB g.tos g.us = true then 0 else 2) else 2) else 3) else 2) else 2) := rfl
  have HMU : Hid (∀ W, Calls Try.prog 53 #[.agg #[.int .u8 (g.kd.toNat : Int), .int .i64 0, .int .i64 0, .int .i64 0, .int .i64 0, .int .i64 0, .string ⟨#[]⟩, .int .u64 0, .int .u64 0, .int .u64 0, .int .u8 0, .int .u64 0, .int .i64 0]] W fun e w' => e = .returned (.bool (mutB g.kd.toNat)) ∧ Below W.heap.size W w') := fun W => smut_any ⟨g.kd, 0, 0, 0, 0, 0, ⟨#[]⟩, 0#64, 0#64, 0#64, 0#8, 0#64, 0⟩ W
  have HWI := Lib.hid (swithin_any g.tos n hn)
  have HHA : Hid (hasB (allW n) g.us = decide (0 ≤ g.us ∧ g.us < (n : Int))) := has_all hn g.us
  have HHB := Lib.hid (shas_any g.tos g.us)
  generalize mutB g.kd.toNat = m at *
  generalize hasB (allW n) g.us = ha at *
  generalize hasB g.tos g.us = hb at *
  generalize winB g.tos n = wi at *
  generalize evE n b g = EE at *
  generalize cE n g = E at *
  obtain ⟨x1, x2, x3, x4, x5, x6, x7, x8, x9⟩ := g
  unfold cellsEV at *
  dsimp only at *
  obtain ⟨_, d1, d2, d3, d4, d5, d6, d7, d8, d9⟩ := HBX.out
  dsimp only at d1 d2 d3 d4 d5 d6 d7 d8 d9
  by_cases hst : x1 ≤ b
  · rw [if_pos hst] at HV
    go_enter Try.func91, Try.ntmps91
    go_wp2_with fail
    go_ret
    exact ⟨retZ HV.out.symm, HB.out⟩
  rw [if_neg hst] at HV
  go_enter Try.func91, Try.ntmps91
  go_wp2_with fail
  clear d1 d2 d3 d4 d5 d6 d7 d8 d9
  generalize w.alloc (.cells #[.int .i64 x1, .int .i64 x2, .int .u8 (x3.toNat : Int), .int .i64 x4, .int .i64 x5, .int .i64 x6, .int .i64 x7, .bool x8, .int .u64 (x9.toNat : Int)] 84) = wa at *
  refine (HMU.out _).mono ?_
  rintro e w1 ⟨rfl, hB1⟩
  have HX1 := Lib.hid (HBX.out.later hB1)
  have HB1 := Lib.hid (Below.next HB.out hB1)
  clear hB1 HBX HB HMU
  obtain ⟨_, d1, d2, d3, d4, d5, d6, d7, d8, d9⟩ := HX1.out
  dsimp only at d1 d2 d3 d4 d5 d6 d7 d8 d9
  cases m
  · rw [if_neg (by decide)] at HC
    go_wp2_with fail
    go_ret
    exact ⟨retZ (HV.out.trans HC.out).symm, HB1.out⟩
  rw [if_pos rfl] at HC
  by_cases hu0 : x2 < 0
  · obtain rfl : ha = false := by rw [HHA.out]; exact decide_eq_false (by omega)
    rw [if_neg (by decide)] at HC
    go_wp2_with fail
    go_ret
    exact ⟨retZ (HV.out.trans HC.out).symm, HB1.out⟩
  by_cases hu1 : (n : Int) ≤ x2
  · obtain rfl : ha = false := by rw [HHA.out]; exact decide_eq_false (by omega)
    rw [if_neg (by decide)] at HC
    go_wp2_with fail
    go_ret
    exact ⟨retZ (HV.out.trans HC.out).symm, HB1.out⟩
  obtain rfl : ha = true := by rw [HHA.out]; exact decide_eq_true (by omega)
  rw [if_pos rfl] at HC
  go_wp2_with fail
  refine (srange_any x4 x5 x6 x7 _).mono ?_
  rintro e w2 ⟨rfl, hB2⟩
  have HX2 := Lib.hid (HX1.out.later hB2)
  have HB2 := Lib.hid (Below.next HB1.out hB2)
  clear hB2 HX1 HB1 d1 d2 d3 d4 d5 d6 d7 d8 d9
  obtain ⟨_, d1, d2, d3, d4, d5, d6, d7, d8, d9⟩ := HX2.out
  dsimp only at d1 d2 d3 d4 d5 d6 d7 d8 d9
  cases hck : ckB x4 x5 x6 x7
  · rw [hck, if_neg (by decide)] at HC
    clear hck
    go_wp2_with fail
    go_ret
    exact ⟨retZ (HV.out.trans HC.out).symm, HB2.out⟩
  rw [hck, if_pos rfl] at HC
  clear hck
  go_wp2_with fail
  refine (HWI.out _).mono ?_
  rintro e w3 ⟨rfl, rfl⟩
  cases wi
  · rw [if_neg (by decide)] at HC
    go_wp2_with fail
    go_ret
    exact ⟨retZ (HV.out.trans HC.out).symm, HB2.out⟩
  rw [if_pos rfl] at HC
  go_wp2_with fail
  refine (HHB.out _).mono ?_
  rintro e w3 ⟨rfl, rfl⟩
  cases hb
  · rw [if_neg (by decide)] at HC
    go_wp2_with fail
    go_ret
    exact ⟨retZ (HV.out.trans HC.out).symm, HB2.out⟩
  · rw [if_pos rfl] at HC
    go_wp2_with fail
    go_ret
    exact ⟨retZ (HV.out.trans HC.out).symm, HB2.out⟩
set_option maxRecDepth 100000 in
set_option maxHeartbeats 12800000 in
theorem plE_any (n : Nat) (g : LV) (w : World) :
    Calls Try.prog 90 #[.agg (cellsLV g).toArray, .int .u64 ((allW n).toNat : Int)] w fun e w' => e = .returned (.int .i64 (lE n g)) ∧ Below w.heap.size w w' := by
  have HW := Lib.hid (winB_eq g.tos n)
  have HBX := Lib.hid (BoxLV.start w g 88)
  have HB := Lib.hid (below_alloc w (.cells (cellsLV g).toArray 88))
  have HC : Hid (lE n g = if okR g.ac g.ar = true then (if ckB g.c1 g.r1 g.c2 g.r2 = true then (if (ndB g.nd && (relB g.fn.toNat && (giB g.gr && winB g.tos n))) = true then 0 else 2) else 3) else 3) := rfl
  generalize winB g.tos n = wi at *
  generalize lE n g = E at *
  obtain ⟨x1, x2, x3, x4, x5, x6, x7, x8, x9, x10, x11⟩ := g
  unfold cellsLV at *
  dsimp only at *
  have hf := x5.isLt
  obtain ⟨_, d1, d2, d3, d4, d5, d6, d7, d8, d9, d10, d11⟩ := HBX.out
  dsimp only at d1 d2 d3 d4 d5 d6 d7 d8 d9 d10 d11
  go_enter Try.func90, Try.ntmps90
  go_wp2_with fail
  clear d1 d2 d3 d4 d5 d6 d7 d8 d9 d10 d11
  generalize w.alloc (.cells #[.int .i64 x1, .int .i64 x2, .int .i64 x3, .int .i64 x4, .int .u8 (x5.toNat : Int), .int .i64 x6, .int .i64 x7, .int .i64 x8, .int .i64 x9, .int .i64 x10, .int .u64 (x11.toNat : Int)] 88) = wa at *
  refine (rone_any x2 x3 _).mono ?_
  rintro e w1 ⟨rfl, hB1⟩
  have HX1 := Lib.hid (HBX.out.later hB1)
  have HB1 := Lib.hid (Below.next HB.out hB1)
  clear hB1 HBX HB
  go_wp2_with fail
  refine (rcheck_any x2 x3 x2 x3 _).mono ?_
  rintro e w2 ⟨rfl, hB2⟩
  have HX2 := Lib.hid (HX1.out.later hB2)
  have HB2 := Lib.hid (Below.next HB1.out hB2)
  clear hB2 HX1 HB1
  obtain ⟨_, d1, d2, d3, d4, d5, d6, d7, d8, d9, d10, d11⟩ := HX2.out
  dsimp only at d1 d2 d3 d4 d5 d6 d7 d8 d9 d10 d11
  rw [← ckB_one] at HC
  cases hok : ckB x2 x3 x2 x3
  · rw [ckE_f hok]
    rw [hok, if_neg (by decide)] at HC
    clear hok
    go_wp2_with fail
    go_ret
    exact ⟨retZ HC.out.symm, HB2.out⟩
  rw [ckE_t hok]
  rw [hok, if_pos rfl] at HC
  clear hok
  go_wp2_with fail
  refine (rcheck_any x6 x7 x8 x9 _).mono ?_
  rintro e w3 ⟨rfl, hB3⟩
  have HX3 := Lib.hid (HX2.out.later hB3)
  have HB3 := Lib.hid (Below.next HB2.out hB3)
  clear hB3 HX2 HB2 d1 d2 d3 d4 d5 d6 d7 d8 d9 d10 d11
  obtain ⟨_, d1, d2, d3, d4, d5, d6, d7, d8, d9, d10, d11⟩ := HX3.out
  dsimp only at d1 d2 d3 d4 d5 d6 d7 d8 d9 d10 d11
  cases hck : ckB x6 x7 x8 x9
  · rw [ckE_f hck]
    rw [hck, if_neg (by decide)] at HC
    clear hck
    go_wp2_with fail
    go_ret
    exact ⟨retZ HC.out.symm, HB3.out⟩
  rw [ckE_t hck]
  rw [hck, if_pos rfl] at HC
  clear hck
  rcases (show x4 < 0 ∨ (0 ≤ x4 ∧ 256 ≤ x4) ∨ (0 ≤ x4 ∧ x4 < 256) by omega) with n1 | ⟨n1, n2⟩ | ⟨n1, n2⟩ <;> rcases (show x5.toNat < 46 ∨ (46 ≤ x5.toNat ∧ 50 < x5.toNat) ∨ (46 ≤ x5.toNat ∧ x5.toNat ≤ 50) by omega) with m1 | ⟨m1, m2⟩ | ⟨m1, m2⟩ <;> rcases (show x10 < 0 ∨ (0 ≤ x10 ∧ 64 ≤ x10) ∨ (0 ≤ x10 ∧ x10 < 64) by omega) with k1 | ⟨k1, k2⟩ | ⟨k1, k2⟩
  rotate_right
  · cases wi
    · rw [if_neg (by simp)] at HC
      have q3 := HW.out
      have q4 : (bits .andNot .u64 (x11.toNat : Int) ((allW n).toNat : Int) != 0) = true := by rw [bne, q3]; rfl
      go_wp2_with fail
      go_ret
      exact ⟨retZ HC.out.symm, HB3.out⟩
    · rw [if_pos (by unfold ndB relB giB; simp only [Bool.and_eq_true, decide_eq_true_eq]; exact ⟨⟨by omega, by omega⟩, ⟨by omega, by omega⟩, ⟨by omega, by omega⟩, trivial⟩)] at HC
      have q3 := HW.out
      have q4 : (bits .andNot .u64 (x11.toNat : Int) ((allW n).toNat : Int) != 0) = false := by rw [bne, q3]; rfl
      go_wp2_with fail
      go_ret
      exact ⟨retZ HC.out.symm, HB3.out⟩
  all_goals
    rw [if_neg (by unfold ndB relB giB; simp only [Bool.and_eq_true, decide_eq_true_eq]; omega)] at HC
    go_wp2_with fail
    go_ret
    exact ⟨retZ HC.out.symm, HB3.out⟩
def reE (n : Nat) (b : Int) (g : LV) : Int := if g.st < b then 12 else lE n g
set_option maxRecDepth 100000 in
set_option maxHeartbeats 12800000 in
theorem slE_any (n : Nat) (hn : n ≤ 64) (b : Int) (g : LV) (w : World) :
    Calls Try.prog 92 #[.int .i64 (n : Int), .int .i64 b, .agg (cellsLV g).toArray] w fun e w' => e = .returned (.int .i64 (reE n b g)) ∧ Below w.heap.size w w' := by
  have HV : Hid (reE n b g = if g.st < b then 12 else lE n g) := rfl
  have HWI := Lib.hid (swithin_any g.tos n hn)
  have HBX := Lib.hid (BoxLV.start w g 88)
  have HB := Lib.hid (below_alloc w (.cells (cellsLV g).toArray 88))
  have HC : Hid (lE n g = if okR g.ac g.ar = true then (if ckB g.c1 g.r1 g.c2 g.r2 = true then (if (ndB g.nd && (relB g.fn.toNat && (giB g.gr && winB g.tos n))) = true then 0 else 2) else 3) else 3) := rfl
  generalize winB g.tos n = wi at *
  generalize reE n b g = EE at *
  generalize lE n g = E at *
  obtain ⟨x1, x2, x3, x4, x5, x6, x7, x8, x9, x10, x11⟩ := g
  unfold cellsLV at *
  dsimp only at *
  have hf := x5.isLt
  obtain ⟨_, d1, d2, d3, d4, d5, d6, d7, d8, d9, d10, d11⟩ := HBX.out
  dsimp only at d1 d2 d3 d4 d5 d6 d7 d8 d9 d10 d11
  have HRE := Lib.hid (released_any x5.toNat x5.isLt)
  by_cases hst : x1 < b
  · rw [if_pos hst] at HV
    go_enter Try.func92, Try.ntmps92
    go_wp2_with fail
    go_ret
    exact ⟨retZ HV.out.symm, HB.out⟩
  rw [if_neg hst] at HV
  go_enter Try.func92, Try.ntmps92
  go_wp2_with fail
  clear d1 d2 d3 d4 d5 d6 d7 d8 d9 d10 d11
  generalize w.alloc (.cells #[.int .i64 x1, .int .i64 x2, .int .i64 x3, .int .i64 x4, .int .u8 (x5.toNat : Int), .int .i64 x6, .int .i64 x7, .int .i64 x8, .int .i64 x9, .int .i64 x10, .int .u64 (x11.toNat : Int)] 88) = wa at *
  refine (saddress_any x2 x3 _).mono ?_
  rintro e w1 ⟨rfl, hB1⟩
  have HX1 := Lib.hid (HBX.out.later hB1)
  have HB1 := Lib.hid (Below.next HB.out hB1)
  clear hB1 HBX HB
  obtain ⟨_, d1, d2, d3, d4, d5, d6, d7, d8, d9, d10, d11⟩ := HX1.out
  dsimp only at d1 d2 d3 d4 d5 d6 d7 d8 d9 d10 d11
  cases hok : okR x2 x3
  · rw [hok, if_neg (by decide)] at HC
    clear hok
    go_wp2_with fail
    go_ret
    exact ⟨retZ (HV.out.trans HC.out).symm, HB1.out⟩
  rw [hok, if_pos rfl] at HC
  clear hok
  go_wp2_with fail
  refine (srange_any x6 x7 x8 x9 _).mono ?_
  rintro e w2 ⟨rfl, hB2⟩
  have HX2 := Lib.hid (HX1.out.later hB2)
  have HB2 := Lib.hid (Below.next HB1.out hB2)
  clear hB2 HX1 HB1 d1 d2 d3 d4 d5 d6 d7 d8 d9 d10 d11
  obtain ⟨_, d1, d2, d3, d4, d5, d6, d7, d8, d9, d10, d11⟩ := HX2.out
  dsimp only at d1 d2 d3 d4 d5 d6 d7 d8 d9 d10 d11
  cases hck : ckB x6 x7 x8 x9
  · rw [hck, if_neg (by decide)] at HC
    clear hck
    go_wp2_with fail
    go_ret
    exact ⟨retZ (HV.out.trans HC.out).symm, HB2.out⟩
  rw [hck, if_pos rfl] at HC
  clear hck
  by_cases n1 : x4 < 0
  · rw [if_neg (by unfold ndB relB giB; simp only [Bool.and_eq_true, decide_eq_true_eq]; omega)] at HC
    go_wp2_with fail
    go_ret
    exact ⟨retZ (HV.out.trans HC.out).symm, HB2.out⟩
  by_cases n2 : 256 ≤ x4
  · rw [if_neg (by unfold ndB relB giB; simp only [Bool.and_eq_true, decide_eq_true_eq]; omega)] at HC
    go_wp2_with fail
    go_ret
    exact ⟨retZ (HV.out.trans HC.out).symm, HB2.out⟩
  go_wp2_with fail
  refine (HRE.out _).mono ?_
  rintro e w3 ⟨rfl, rfl⟩
  cases hre : relB x5.toNat
  · rw [hre, Bool.false_and, Bool.and_false, if_neg (by decide)] at HC
    go_wp2_with fail
    go_ret
    exact ⟨retZ (HV.out.trans HC.out).symm, HB2.out⟩
  rw [hre, Bool.true_and] at HC
  clear hre
  by_cases k1 : x10 < 0
  · rw [if_neg (by unfold ndB giB; simp only [Bool.and_eq_true, decide_eq_true_eq]; omega)] at HC
    go_wp2_with fail
    go_ret
    exact ⟨retZ (HV.out.trans HC.out).symm, HB2.out⟩
  by_cases k2 : 64 ≤ x10
  · rw [if_neg (by unfold ndB giB; simp only [Bool.and_eq_true, decide_eq_true_eq]; omega)] at HC
    go_wp2_with fail
    go_ret
    exact ⟨retZ (HV.out.trans HC.out).symm, HB2.out⟩
  go_wp2_with fail
  refine (HWI.out _).mono ?_
  rintro e w3 ⟨rfl, rfl⟩
  cases wi
  · rw [if_neg (by simp)] at HC
    go_wp2_with fail
    go_ret
    exact ⟨retZ (HV.out.trans HC.out).symm, HB2.out⟩
  · rw [if_pos (by unfold ndB giB; simp only [Bool.and_eq_true, decide_eq_true_eq]; exact ⟨⟨by omega, by omega⟩, ⟨by omega, by omega⟩, trivial⟩)] at HC
    go_wp2_with fail
    go_ret
    exact ⟨retZ (HV.out.trans HC.out).symm, HB2.out⟩
end Go.Proofs.Ytndijajaddkbhaa.Re
