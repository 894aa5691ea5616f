/- Merged: RefSqrt RefQuo RefPow. -/
import Derived.Test.YtfjefanhkbcfgaaGreatDoorMgg
import Derived.Test.YtfjefanhkbcfgaaGreatDoorMgi
import Derived.Deep.RegionWith
/- The contract of the specification's Sqrt: an interval is halved. -/
namespace Go.Proofs.YtfjefanhkbcfgaaGreatDoor
open Go.RowKit

theorem root_of {S lo hi : Int} (h0 : 0 ≤ lo) (h1 : lo * lo ≤ S) (h2 : S < hi * hi) (h3 : hi - lo ≤ 1) (h4 : lo < hi) (hS : S < 302231454903657293676544) : IsRoot S lo := by
  obtain rfl : hi = lo + 1 := by omega
  refine ⟨h0, ?_, h1, h2⟩
  rcases Int.lt_or_le 549755813887 lo with h | h
  · have := sq_le (a := 549755813888) (b := lo) (by omega) (by omega); omega
  · exact h
/-- An interval in which the root lies. -/
def SqJ (S lo hi : Int) : Prop := 0 ≤ lo ∧ lo < hi ∧ hi ≤ 1099511627776 ∧ lo * lo ≤ S ∧ S < hi * hi

set_option maxRecDepth 100000 in
set_option maxHeartbeats 1600000 in
theorem rsqrt_any (a : Int) (h0 : 0 ≤ a) (h1 : a ≤ 9223372036854775807) (w : World) :
    Calls Tryz.prog 91 #[.int .i64 a] w fun e w' => ∃ r : Int, e = .returned (.tuple #[.int .i64 r, .bool true]) ∧ IsRoot (a * 10000) r ∧ Below w.heap.size w w' := by
  go_enter Tryz.func91, Tryz.ntmps91
  go_wp2_with fail
  refine (times_any _ _ ⟨h0, by omega⟩ ⟨by omega, by omega⟩ _).mono ?_
  rintro e w1 ⟨sh, sl, rfl, hI, hB1⟩
  obtain ⟨S, HS⟩ : ∃ S, Hid (a * 10000 = S) := ⟨_, rfl⟩
  have hS0 : Hid (0 ≤ S ∧ S < 302231454903657293676544) := by rw [← HS.out]; unfold Hid; omega
  rw [HS.out] at hI
  have k0 : Hold (w1.alloc (.cells #[.int .u64 sh, .int .u64 sl] 121)) w1.heap.size sh sl := Hold.new
  have hb1 : Below w.heap.size w (w1.alloc (.cells #[.int .u64 sh, .int .u64 sl] 121)) := hB1.alloc hB1.size _
  go_wp2_with fail
  go_loopw [5, 6] (fun s t wr => ∃ lo hi : Int, s = .int .u64 lo ∧ t = .int .u64 hi ∧ SqJ S lo hi ∧ Hold wr w1.heap.size sh sl ∧ Below w.heap.size w wr) (fun s t _ => (intOf t - intOf s).toNat)
  case atStart => exact ⟨0, 1099511627776, rfl, rfl, ⟨by omega, by omega, by omega, by have := hS0.out; omega, by have := hS0.out; omega⟩, k0, hb1⟩
  case round =>
    rename_i wr
    clear k0 hb1
    obtain ⟨lo, hi, rfl, rfl, hJ, hk, hb⟩ := hrel
    obtain ⟨u0, u1, u2, u3, u4⟩ := id hk
    obtain ⟨j0, j1, j2, j3, j4⟩ := id hJ
    have HJ := Lib.hid hJ
    clear j3 j4 hJ
    by_cases hlt : 1 < hi - lo
    · obtain ⟨m, HM⟩ : ∃ m, Hid ((lo + hi) / 2 = m) := ⟨_, rfl⟩
      have m0 : lo < m := by have := HM.out; omega
      have m1 : m < hi := by have := HM.out; omega
      go_upto_region 7 with (fail)
      rw [HM.out]
      by_cases hs : S < m * m
      · go_region_with (first | (go_at_call 150; refine (times_any _ _ ⟨by omega, by omega⟩ ⟨by omega, by omega⟩ _).mono ?_; rintro e w2 ⟨mh, ml, rfl, hI2, hB2⟩; obtain ⟨hc, hf⟩ := bcell hB2; simp at hc hf) | (go_at_call 152; refine (less_any _ _ _ _ _ _ hI hI2 _).mono ?_; rintro e w3 ⟨rfl, hB3⟩; rw [ltB_t hs]))
        all_goals
          go_wp2_with fail
          go_roundw
          case rel => exact ⟨lo, m, rfl, rfl, ⟨j0, m0, by omega, HJ.out.2.2.2.1, hs⟩, Hold.later (Hold.later hk.drew hB2) hB3, Below.next (Below.next hb.drew hB2) hB3⟩
          case measure => simp [intOf]; omega
      · go_region_with (first | (go_at_call 150; refine (times_any _ _ ⟨by omega, by omega⟩ ⟨by omega, by omega⟩ _).mono ?_; rintro e w2 ⟨mh, ml, rfl, hI2, hB2⟩; obtain ⟨hc, hf⟩ := bcell hB2; simp at hc hf) | (go_at_call 152; refine (less_any _ _ _ _ _ _ hI hI2 _).mono ?_; rintro e w3 ⟨rfl, hB3⟩; rw [ltB_f (by omega)]))
        all_goals
          go_wp2_with fail
          go_roundw
          case rel => exact ⟨m, hi, rfl, rfl, ⟨by omega, m1, j2, by omega, HJ.out.2.2.2.2⟩, Hold.later (Hold.later hk.drew hB2) hB3, Below.next (Below.next hb.drew hB2) hB3⟩
          case measure => simp [intOf]; omega
    · have hfin : Hid (IsRoot S lo) := root_of j0 HJ.out.2.2.2.1 HJ.out.2.2.2.2 (by omega) j1 hS0.out.2
      have hl2 : lo ≤ 549755813887 := hfin.out.2.1
      go_wp2_with fail
      go_ret2
      exact ⟨lo, rfl, by rw [HS.out]; exact hfin.out, hb⟩
set_option maxHeartbeats 400000 in
theorem rsqrt_neg (a : Int) (h0 : a < 0) (w : World) :
    Calls Tryz.prog 91 #[.int .i64 a] w fun e w' => e = .returned (.tuple #[.int .i64 0, .bool false]) ∧ w = w' := by
  go_enter Tryz.func91, Tryz.ntmps91
  go_wp2_with fail
  go_ret2
  exact ⟨rfl, rfl⟩
end Go.Proofs.YtfjefanhkbcfgaaGreatDoor
/- Contracts of the specification's Mul and Quo, and the statement DecProducts. -/
namespace Go.Proofs.YtfjefanhkbcfgaaGreatDoor
open Go.RowKit

set_option maxHeartbeats 400000 in
theorem rmul_any (a b : Int) (ha : InI a) (hb : InI b) (w : World) :
    Calls Tryz.prog 100 #[.int .i64 a, .int .i64 b] w fun e w' => e = .returned (.tuple #[.int .i64 (resV (mulZ a b)), .bool (resB (mulZ a b))]) ∧ Below w.heap.size w w' := by
  have HA := Lib.hid ha
  have HB := Lib.hid hb
  have sa := Lib.hid (size_bd' ha)
  have sb := Lib.hid (size_bd' hb)
  have sm := Lib.hid (size_mul_bd ha hb)
  clear ha hb
  go_enter Tryz.func100, Tryz.ntmps100
  go_wp2_with fail
  refine (rsize_any a HA.out _).mono ?_
  rintro e w' ⟨rfl, rfl⟩
  go_wp2_with fail
  refine (rsize_any b HB.out _).mono ?_
  rintro e w' ⟨rfl, rfl⟩
  go_wp2_with fail
  refine (times_any _ _ (by have := sa.out; unfold InU; omega) (by have := sb.out; unfold InU; omega) _).mono ?_
  rintro e w1 ⟨h, l, rfl, hI, hB1⟩
  go_wp2_with fail
  refine (nearest_any _ _ 10000 _ hI (by omega) (by omega) (by have := sm.out; omega) _).mono ?_
  rintro e w2 ⟨h2, l2, rfl, hI2, hB2⟩
  go_wp2_with fail
  refine (signed_any _ _ _ hI2 _ _).mono ?_
  rintro e w3 ⟨rfl, hB3⟩
  go_wp2_with fail
  go_ret2
  exact ⟨rfl, Below.next (Below.next hB1 hB2) hB3⟩
set_option maxHeartbeats 400000 in
theorem rquo_any (a b : Int) (ha : InI a) (hb : InI b) (hb0 : ¬ b = 0) (w : World) :
    Calls Tryz.prog 94 #[.int .i64 a, .int .i64 b] w fun e w' => e = .returned (.tuple #[.int .i64 (resV (quoZ a b)), .bool (resB (quoZ a b))]) ∧ Below w.heap.size w w' := by
  have HA := Lib.hid ha
  have HB := Lib.hid hb
  have sa := Lib.hid (size_bd' ha)
  have sb := Lib.hid (size_bd' hb)
  have sb1 : Hid (1 ≤ sizeOf' b) := by unfold Hid sizeOf'; split <;> omega
  clear ha hb
  go_enter Tryz.func94, Tryz.ntmps94
  go_wp2_with fail
  refine (rsize_any a HA.out _).mono ?_
  rintro e w' ⟨rfl, rfl⟩
  go_wp2_with fail
  refine (times_any _ _ (by have := sa.out; unfold InU; omega) (by unfold InU; omega) _).mono ?_
  rintro e w1 ⟨h, l, rfl, hI, hB1⟩
  go_wp2_with fail
  refine (rsize_any b HB.out _).mono ?_
  rintro e w' ⟨rfl, rfl⟩
  go_wp2_with fail
  refine (nearest_any _ _ (sizeOf' b) _ hI sb1.out (by have := sb.out; omega) (by have := sa.out; have := sb.out; omega) _).mono ?_
  rintro e w2 ⟨h2, l2, rfl, hI2, hB2⟩
  go_wp2_with fail
  refine (signed_any _ _ _ hI2 _ _).mono ?_
  rintro e w3 ⟨rfl, hB3⟩
  go_wp2_with fail
  go_ret2
  exact ⟨rfl, Below.next (Below.next hB1 hB2) hB3⟩
set_option maxHeartbeats 400000 in
theorem rquo_zero (a : Int) (w : World) :
    Calls Tryz.prog 94 #[.int .i64 a, .int .i64 0] w fun e w' => e = .returned (.tuple #[.int .i64 0, .bool false]) ∧ w = w' := by
  go_enter Tryz.func94, Tryz.ntmps94
  go_wp2_with fail
  go_ret2
  exact ⟨rfl, rfl⟩
end Go.Proofs.YtfjefanhkbcfgaaGreatDoor
/- The contract of the specification's Power, and the statement DecRounds. -/
namespace Go.Proofs.YtfjefanhkbcfgaaGreatDoor
open Go.RowKit

theorem pw_step {a : Int} {k : Nat} {p : Int} (h : powZ a k = some p) : pwV a (k + 1) = resV (mulZ p a) ∧ pwB a (k + 1) = resB (mulZ p a) := by
  cases hb : resB (mulZ p a)
  · rw [(pw_none (powZ_no h hb)).1, (pw_none (powZ_no h hb)).2, resV_no hb]; exact ⟨rfl, rfl⟩
  · rw [(pw_some (powZ_yes h hb)).1, (pw_some (powZ_yes h hb)).2, resV_of hb]; exact ⟨rfl, rfl⟩
theorem pw_true {a : Int} {k : Nat} (h : pwB a k = true) : powZ a k = some (pwV a k) := by
  cases hp : powZ a k with
  | none => rw [(pw_none hp).2] at h; cases h
  | some q => rw [(pw_some hp).1]
theorem pw_false {a : Int} {k m : Nat} (h : pwB a k = false) (hm : k ≤ m) : pwV a m = 0 ∧ pwB a m = false := by
  cases hp : powZ a k with
  | none => exact pw_none (powZ_none hp hm)
  | some q => rw [(pw_some hp).2] at h; cases h
theorem pw_InI (a : Int) (k : Nat) : InI (pwV a k) := by
  cases hp : powZ a k with
  | none => rw [(pw_none hp).1]; unfold InI; omega
  | some q => rw [(pw_some hp).1]; exact powZ_InI hp

set_option maxHeartbeats 1600000 in
theorem rpower_up (a : Int) (ha : InI a) (m : Nat) (hm : m ≤ 1000) (w : World) :
    Calls Tryz.prog 151 #[.int .i64 a, .int .i64 m] w fun e w' => e = .returned (.tuple #[.int .i64 (pwV a m), .bool (pwB a m)]) ∧ Below w.heap.size w w' := by
  have HA := Lib.hid ha
  clear ha
  go_enter Tryz.func151, Tryz.ntmps151
  go_wp2_with fail
  go_loopw [6, 7, 8] (fun s t i wr => ∃ (k : Nat), k ≤ m ∧ i = .int .i64 k ∧ s = .int .i64 (pwV a k) ∧ t = .bool (pwB a k) ∧ Below w.heap.size w wr) (fun _ _ i _ => m - (intOf i).toNat)
  case atStart => exact ⟨0, by omega, rfl, rfl, rfl, Below.refl _ _⟩
  case round =>
    rename_i wr
    obtain ⟨k, hk, rfl, rfl, rfl, hb⟩ := hrel
    cases hB : pwB a k
    · have h0 : Hid (pwV a m = 0 ∧ pwB a m = false) := pw_false hB hk
      have h1 : Hid (pwV a k = 0 ∧ pwB a k = false) := pw_false hB (Nat.le_refl _)
      rw [h1.out.1]
      clear hB
      go_wp2_with fail
      go_ret2
      exact ⟨(retIB h0.out.1 h0.out.2).symm, hb⟩
    · have hp := Lib.hid (pw_true hB)
      have hs := Lib.hid (pw_step hp.out)
      clear hB
      by_cases hlt : k < m
      · go_wp2_with fail
        refine (rmul_any _ a (pw_InI a k) HA.out _).mono ?_
        rintro e w1 ⟨rfl, hB1⟩
        go_wp2_with fail
        go_roundw
        case rel => exact ⟨k + 1, by omega, by go_num, by rw [hs.out.1], by rw [hs.out.2], Below.next hb hB1⟩
        case measure => simp [intOf]; omega
      · have h0 : Hid (pwV a m = pwV a k ∧ pwB a m = true) := by
          have hk' : k = m := by omega
          have := hp.out
          rw [hk'] at this
          rw [hk']
          exact ⟨rfl, (pw_some this).2⟩
        go_wp2_with fail
        go_ret2
        exact ⟨(retIB h0.out.1 h0.out.2).symm, hb⟩

theorem powV_dn {a : Int} {m : Nat} (h1 : 1 ≤ m) (h2 : m ≤ 1000) : powV a (-(m : Int)) = (if pwB a m = true ∧ ¬ pwV a m = 0 then resV (quoZ 10000 (pwV a m)) else 0) ∧
    powB a (-(m : Int)) = (if pwB a m = true ∧ ¬ pwV a m = 0 then resB (quoZ 10000 (pwV a m)) else false) := by
  constructor
  · unfold powV
    rw [if_neg (by omega), if_neg (by omega), Int.neg_neg, Int.toNat_natCast]
  · unfold powB
    rw [if_neg (by omega), if_neg (by omega), Int.neg_neg, Int.toNat_natCast]
set_option maxHeartbeats 1600000 in
theorem rpower_dn (a : Int) (ha : InI a) (m : Nat) (hm1 : 1 ≤ m) (hm : m ≤ 1000) (w : World) :
    Calls Tryz.prog 151 #[.int .i64 a, .int .i64 (-(m : Int))] w fun e w' => e = .returned (.tuple #[.int .i64 (powV a (-(m : Int))), .bool (powB a (-(m : Int)))]) ∧ Below w.heap.size w w' := by
  have HA := Lib.hid ha
  clear ha
  obtain ⟨E1, E2⟩ := powV_dn (a := a) hm1 hm
  rw [E1, E2]
  clear E1 E2
  obtain ⟨V, HV⟩ : ∃ v, Hid ((if pwB a m = true ∧ ¬ pwV a m = 0 then resV (quoZ 10000 (pwV a m)) else 0) = v) := ⟨_, rfl⟩
  obtain ⟨B, HB⟩ : ∃ v, Hid ((if pwB a m = true ∧ ¬ pwV a m = 0 then resB (quoZ 10000 (pwV a m)) else false) = v) := ⟨_, rfl⟩
  rw [HV.out, HB.out]
  go_enter Tryz.func151, Tryz.ntmps151
  go_wp2_with fail
  go_loopw [6, 7, 8] (fun s t i wr => ∃ (k : Nat), k ≤ m ∧ i = .int .i64 k ∧ s = .int .i64 (pwV a k) ∧ t = .bool (pwB a k) ∧ Below w.heap.size w wr) (fun _ _ i _ => m - (intOf i).toNat)
  case atStart => exact ⟨0, by omega, rfl, rfl, rfl, Below.refl _ _⟩
  case round =>
    rename_i wr
    obtain ⟨k, hk, rfl, rfl, rfl, hb⟩ := hrel
    cases hB : pwB a k
    · have h0 := pw_false (m := m) hB hk
      have h1 : Hid (pwV a k = 0 ∧ pwB a k = false) := pw_false hB (Nat.le_refl _)
      have e1 : Hid (V = 0 ∧ B = false) := by
        rw [← HV.out, ← HB.out, h0.2]; exact ⟨by simp, by simp⟩
      rw [h1.out.1]
      clear hB h0
      go_wp2_with fail
      go_ret2
      exact ⟨(retIB e1.out.1 e1.out.2).symm, hb⟩
    · have hp := Lib.hid (pw_true hB)
      have hs := Lib.hid (pw_step hp.out)
      by_cases hlt : k < m
      · clear hB
        go_wp2_with fail
        refine (rmul_any _ a (pw_InI a k) HA.out _).mono ?_
        rintro e w1 ⟨rfl, hB1⟩
        go_wp2_with fail
        go_roundw
        case rel => exact ⟨k + 1, by omega, by go_num, by rw [hs.out.1], by rw [hs.out.2], Below.next hb hB1⟩
        case measure => simp [intOf]; omega
      · have hk' : k = m := by omega
        have hB2 : pwB a m = true := by rw [← hk']; exact hB
        obtain ⟨p, HP⟩ : ∃ p, Hid (pwV a k = p) := ⟨_, rfl⟩
        have HPm : Hid (pwV a m = p) := by rw [← hk']; exact HP
        have HI : Hid (InI p) := by rw [← HP.out]; exact pw_InI a k
        rw [HP.out]
        by_cases hp0 : p = 0
        · have e1 : Hid (V = 0 ∧ B = false) := by
            rw [← HV.out, ← HB.out, HPm.out, if_neg (by simp [hp0]), if_neg (by simp [hp0])]; exact ⟨rfl, rfl⟩
          subst hp0
          clear hB hB2 hk'
          go_wp2_with fail
          refine (rquo_zero _ _).mono ?_
          rintro e w1 ⟨rfl, rfl⟩
          go_wp2_with fail
          go_ret2
          exact ⟨(retIB e1.out.1 e1.out.2).symm, hb⟩
        · have e1 : Hid (V = resV (quoZ 10000 p) ∧ B = resB (quoZ 10000 p)) := by
            rw [← HV.out, ← HB.out, HPm.out, if_pos ⟨hB2, hp0⟩, if_pos ⟨hB2, hp0⟩]; exact ⟨rfl, rfl⟩
          have HP0 := Lib.hid hp0
          clear hB hB2 hk' hp0
          go_wp2_with fail
          refine (rquo_any 10000 p (by unfold InI; omega) HI.out HP0.out _).mono ?_
          rintro e w1 ⟨rfl, hB1⟩
          go_wp2_with fail
          go_ret2
          exact ⟨(retIB e1.out.1 e1.out.2).symm, Below.next hb hB1⟩
set_option maxHeartbeats 800000 in
theorem rpower_any (a n : Int) (ha : InI a) (w : World) :
    Calls Tryz.prog 151 #[.int .i64 a, .int .i64 n] w fun e w' => e = .returned (.tuple #[.int .i64 (powV a n), .bool (powB a n)]) ∧ Below w.heap.size w w' := by
  by_cases h1 : n < -1000
  · have e1 : powV a n = 0 := by unfold powV; rw [if_pos (Or.inl h1)]
    have e2 : powB a n = false := by unfold powB; rw [if_pos (Or.inl h1)]
    rw [e1, e2]
    clear e1 e2 ha
    go_enter Tryz.func151, Tryz.ntmps151
    go_wp2_with fail
    go_ret2
    exact ⟨rfl, Below.refl _ _⟩
  · by_cases h2 : 1000 < n
    · have e1 : powV a n = 0 := by unfold powV; rw [if_pos (Or.inr h2)]
      have e2 : powB a n = false := by unfold powB; rw [if_pos (Or.inr h2)]
      rw [e1, e2]
      clear e1 e2 ha
      go_enter Tryz.func151, Tryz.ntmps151
      go_wp2_with fail
      go_ret2
      exact ⟨rfl, Below.refl _ _⟩
    · by_cases h3 : 0 ≤ n
      · obtain ⟨m, rfl⟩ := Int.eq_ofNat_of_zero_le h3
        have e1 : powV a m = pwV a m := by unfold powV; rw [if_neg (by omega), if_pos h3, Int.toNat_natCast]
        have e2 : powB a m = pwB a m := by unfold powB; rw [if_neg (by omega), if_pos h3, Int.toNat_natCast]
        rw [e1, e2]
        exact rpower_up a ha m (by omega) w
      · obtain ⟨m, hm⟩ : ∃ m : Nat, (m : Int) = -n := ⟨(-n).toNat, by omega⟩
        obtain rfl : n = -(m : Int) := by omega
        exact rpower_dn a ha m (by omega) (by omega) w
end Go.Proofs.YtfjefanhkbcfgaaGreatDoor
