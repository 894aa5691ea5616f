/- Merged: DecRound RefSub RefRnd. -/
import Derived.Test.YtfjefanhkbcfgaaGreatDoorDecRnd
import Derived.Test.YtfjefanhkbcfgaaGreatDoorBits
import Derived.Test.YtfjefanhkbcfgaaGreatDoorHold
/- Contracts of Round, of dec. -/
namespace Go.Proofs.YtfjefanhkbcfgaaGreatDoor
open Go.RowKit

/-- A power of ten. -/
def p10 (k : Nat) : Int := 10 ^ k
theorem p10_succ (k : Nat) : p10 (k + 1) = p10 k * 10 := by unfold p10; rw [Int.pow_succ]
theorem p10_zero : p10 0 = 1 := rfl
theorem p10_pos (k : Nat) : 1 ≤ p10 k := by
  induction k with
  | zero => simp [p10]
  | succ k ih => rw [p10_succ]; omega
theorem p10_mono {a b : Nat} (h : a ≤ b) : p10 a ≤ p10 b := by
  induction h with
  | refl => exact Int.le_refl _
  | step _ ih => rw [p10_succ]; have := p10_pos a; omega
theorem p10_19 : p10 19 = 10000000000000000000 := by decide
theorem p10_le {k : Nat} (h : k ≤ 19) : p10 k ≤ 10000000000000000000 := by rw [← p10_19]; exact p10_mono h
/-- a, rounded to a multiple of 10^k. -/
def roundZ (a : Int) (k : Nat) : Int := sg ((sizeOf' a + p10 k / 2) / p10 k * p10 k) (decide (a < 0))
theorem round_bd {s d : Int} (h0 : 0 ≤ s) (hd : 1 ≤ d) : 0 ≤ (s + d / 2) / d * d ∧ (s + d / 2) / d * d ≤ s + d / 2 ∧ 0 ≤ (s + d / 2) / d ∧ (s + d / 2) / d ≤ s + d / 2 := by
  have e := Int.ediv_mul_add_emod (s + d / 2) d
  have a := Int.emod_nonneg (s + d / 2) (show d ≠ 0 by omega)
  have b : 0 ≤ (s + d / 2) / d := Int.ediv_nonneg (by omega) (by omega)
  have c : (s + d / 2) / d ≤ s + d / 2 := Int.ediv_le_self _ (by omega)
  have f : 0 ≤ (s + d / 2) / d * d := Int.mul_nonneg b (by omega)
  omega
/-- What Round returns: the value, and whether there is one. -/
def rndV (a p : Int) : Int := if 4 ≤ p then resV a else if p < -15 then 0 else resV (roundZ a (4 - p).toNat)
def rndB (a p : Int) : Bool := if 4 ≤ p then resB a else if p < -15 then true else resB (roundZ a (4 - p).toNat)
theorem irV_res {a : Int} (h : InI a) : irV a true = resV a := by
  unfold irV resV InI at *
  by_cases h2 : a = -9223372036854775808
  · rw [if_neg (by simp [h2]), if_neg (by omega)]
  · rw [if_pos ⟨rfl, h2⟩, if_pos (by omega)]
theorem irB_res {a : Int} (h : InI a) : irB a true = resB a := by
  unfold irB resB InI at *
  by_cases h2 : a = -9223372036854775808
  · rw [h2]; decide
  · rw [decide_eq_true h2, decide_eq_true (by omega)]; rfl

set_option maxHeartbeats 800000 in
theorem round_any (a p : Int) (h : InI a) (hp0 : -9223372036854775808 ≤ p) (w : World) :
    Calls Tryz.prog 79 #[.int .i64 a, .int .i64 p] w fun e w' => e = .returned (.tuple #[.int .i64 (rndV a p), .bool (rndB a p)]) ∧ w = w' := by
  have HA := Lib.hid h
  by_cases h4 : 4 ≤ p
  · have e1 : rndV a p = resV a := by unfold rndV; rw [if_pos h4]
    have e2 : rndB a p = resB a := by unfold rndB; rw [if_pos h4]
    rw [e1, e2, ← irV_res h, ← irB_res h]
    clear e1 e2 h
    go_enter Tryz.func79, Tryz.ntmps79
    go_wp2_with fail
    refine (inRange_any _ _ _).mono ?_
    rintro e w' ⟨rfl, rfl⟩
    go_wp2_with fail
    go_ret2
    exact ⟨rfl, rfl⟩
  · by_cases h15 : p < -15
    · have e1 : rndV a p = 0 := by unfold rndV; rw [if_neg h4, if_pos h15]
      have e2 : rndB a p = true := by unfold rndB; rw [if_neg h4, if_pos h15]
      rw [e1, e2]
      clear e1 e2 h
      go_enter Tryz.func79, Tryz.ntmps79
      go_wp2_with fail
      go_ret2
      exact ⟨rfl, rfl⟩
    · have e1 : rndV a p = resV (roundZ a (4 - p).toNat) := by unfold rndV; rw [if_neg h4, if_neg h15]
      have e2 : rndB a p = resB (roundZ a (4 - p).toNat) := by unfold rndB; rw [if_neg h4, if_neg h15]
      rw [e1, e2]
      clear e1 e2
      obtain ⟨m, hm⟩ : ∃ m : Nat, (m : Int) = 4 - p := ⟨(4 - p).toNat, by omega⟩
      have hm19 : m ≤ 19 := by omega
      have hm1 : 1 ≤ m := by omega
      obtain rfl : p = 4 - (m : Int) := by omega
      rw [show (4 - (4 - (m : Int))).toNat = m by omega]
      clear h4 h15 hm hp0
      have hs := Lib.hid (size_bd' h)
      clear h
      go_enter Tryz.func79, Tryz.ntmps79
      go_wp2_with fail
      go_loop [6, 18] (fun s i => ∃ k : Nat, k ≤ m ∧ i = .int .i64 k ∧ s = .int .u64 (p10 k)) (fun _ i => m - (intOf i).toNat)
      case atStart => exact ⟨0, by omega, rfl, by rw [p10_zero]⟩
      case round =>
        obtain ⟨k, hk, rfl, rfl⟩ := hrel
        have b0 := p10_pos k
        by_cases hlt : k < m
        · have b1 : p10 k ≤ 1000000000000000000 := by
            have := p10_le (k := k + 1) (by omega)
            rw [p10_succ] at this
            omega
          have e3 := Lib.hid (p10_succ k)
          go_wp2_with fail
          go_round
          case rel => exact ⟨k + 1, by omega, by go_num, by rw [e3.out]⟩
          case measure => simp [intOf]; omega
        · obtain rfl : k = m := by omega
          have b1 := p10_le (k := k) (by omega)
          have hr := Lib.hid (round_bd (s := sizeOf' a) (d := p10 k) hs.out.1 b0)
          go_wp2_with fail
          refine (dsize_any a HA.out _).mono ?_
          rintro e w' ⟨rfl, rfl⟩
          obtain ⟨s0, s1⟩ := hs.out
          obtain ⟨r0, r1, r2, r3⟩ := hr.out
          go_wp2_with fail
          refine (dsigned_any _ r0 (by omega) _ _).mono ?_
          rintro e w' ⟨rfl, rfl⟩
          go_wp2_with fail
          go_ret2
          exact ⟨rfl, rfl⟩
end Go.Proofs.YtfjefanhkbcfgaaGreatDoor
/- The contract of the specification's difference of two numbers (louvreref01.Sub). -/
namespace Go.Proofs.YtfjefanhkbcfgaaGreatDoor
open Go.RowKit

set_option maxHeartbeats 800000 in
theorem rsub_any (a b : Int) (ha : InI a) (hb : InI b) (w : World) :
    Calls Tryz.prog 99 #[.int .i64 a, .int .i64 b] w fun e w' => e = .returned (.tuple #[.int .i64 (resV (a - b)), .bool (resB (a - b))]) ∧ Below w.heap.size w w' := by
  have HA := Lib.hid ha
  have HB := Lib.hid hb
  clear ha hb
  go_enter Tryz.func99, Tryz.ntmps99
  go_upto_if 11 with (fail)
  go_cut [] (fun wx => Pair w wx w.heap.size a 1)
  case first =>
    have q1 : Hold ((w.alloc (.cells #[.int .u64 0, .int .u64 0] 121)).alloc (.cells #[.int .u64 0, .int .u64 0] 121)) w.heap.size 0 0 := Hold.new.later ((Below.refl _ _).alloc (by simp) _)
    have q2 : Hold ((w.alloc (.cells #[.int .u64 0, .int .u64 0] 121)).alloc (.cells #[.int .u64 0, .int .u64 0] 121)) (w.heap.size + 1) 0 0 := by have := Hold.new (w := w.alloc (.cells #[.int .u64 0, .int .u64 0] 121)) (h := 0) (l := 0) (t := 121); simpa using this
    have hb0 : Below w.heap.size w ((w.alloc (.cells #[.int .u64 0, .int .u64 0] 121)).alloc (.cells #[.int .u64 0, .int .u64 0] 121)) := ((Below.refl _ _).alloc (by simp) _).alloc (by simp) _
    have hs := Lib.hid (size_bd HA.out)
    by_cases h1 : a < 0
    · go_wp2_with (fail)
      go_region_with (first | (go_at_call 148; refine (rsize_any _ HA.out _).mono ?_; rintro e w' ⟨rfl, rfl⟩) | (go_at_call 171; refine (plus_any _ _ _ _ _ _ IsW.zero (size_lo HA.out) (by have := hs.out; omega) _).mono ?_; rintro e w1 ⟨h, l, rfl, hI, hB⟩; obtain ⟨hc, hf⟩ := bcell hB; simp at hc hf))
      all_goals
        go_wp2_with fail
        go_meet
        exact (Pair.down (k := 0) (Nat.le_refl _) q1.drew q2.drew hb0.drew IsW.zero rfl (by omega) (by omega) hB hI hs.out).as (by rw [size_n h1]; omega)
    · go_wp2_with (fail)
      go_region_with (first | (go_at_call 148; refine (rsize_any _ HA.out _).mono ?_; rintro e w' ⟨rfl, rfl⟩) | (go_at_call 171; refine (plus_any _ _ _ _ _ _ IsW.zero (size_lo HA.out) (by have := hs.out; omega) _).mono ?_; rintro e w1 ⟨h, l, rfl, hI, hB⟩; obtain ⟨hc, hf⟩ := bcell hB; simp at hc hf))
      all_goals
        go_wp2_with fail
        go_meet
        exact (Pair.up (k := 0) (Nat.le_refl _) q1.drew q2.drew hb0.drew IsW.zero rfl (by omega) (by omega) hB hI hs.out).as (by rw [size_p (by omega)]; omega)
  case rest =>
  rename_i wc
  obtain ⟨uh, ul, dh, dl, n, m, hu, hd, hb0, xu, xd, hz, hn, hm⟩ := hcut
  have HZ := Lib.hid hz
  clear hz
  obtain ⟨u0, u1, u2, u3, u4⟩ := id hu
  obtain ⟨d0, d1, d2, d3, d4⟩ := id hd
  go_upto_if 23 with (fail)
  go_cut [] (fun wx => Pair w wx w.heap.size (a - b) 2)
  case first =>
    have hs := Lib.hid (size_bd HB.out)
    by_cases h1 : b < 0
    · go_wp2_with (fail)
      go_region_with (first | (go_at_call 148; refine (rsize_any _ HB.out _).mono ?_; rintro e w' ⟨rfl, rfl⟩) | (go_at_call 171; refine (plus_any _ _ _ _ _ _ xu (size_lo HB.out) (by have := hs.out; omega) _).mono ?_; rintro e w1 ⟨h, l, rfl, hI, hB⟩; obtain ⟨hc, hf⟩ := bcell hB; simp at hc hf))
      all_goals
        go_wp2_with fail
        go_meet
        exact (Pair.up (k := 1) (Nat.le_refl _) hu.drew hd.drew hb0.drew xd HZ.out hn hm hB hI hs.out).as (by rw [size_n h1]; omega)
    · go_wp2_with (fail)
      go_region_with (first | (go_at_call 148; refine (rsize_any _ HB.out _).mono ?_; rintro e w' ⟨rfl, rfl⟩) | (go_at_call 171; refine (plus_any _ _ _ _ _ _ xd (size_lo HB.out) (by have := hs.out; omega) _).mono ?_; rintro e w1 ⟨h, l, rfl, hI, hB⟩; obtain ⟨hc, hf⟩ := bcell hB; simp at hc hf))
      all_goals
        go_wp2_with fail
        go_meet
        exact (Pair.down (k := 1) (Nat.le_refl _) hu.drew hd.drew hb0.drew xu HZ.out hn hm hB hI hs.out).as (by rw [size_p (by omega)])
  case rest =>
  clear u0 u1 u2 u3 u4 d0 d1 d2 d3 d4 hu hd hb0 xu xd HZ hn hm
  obtain ⟨uh, ul, dh, dl, n, m, hu, hd, hb0, xu, xd, hz, hn, hm⟩ := hcut
  have HZ := Lib.hid hz
  clear hz
  obtain ⟨u0, u1, u2, u3, u4⟩ := id hu
  obtain ⟨d0, d1, d2, d3, d4⟩ := id hd
  by_cases hlt : n < m
  · go_wp2_with fail
    refine (less_any _ _ _ _ _ _ xu xd _).mono ?_
    rintro e w1 ⟨rfl, hB1⟩
    rw [ltB_t hlt]
    have hu1 := hu.later hB1
    have hd1 := hd.later hB1
    obtain ⟨u10, u11, u12, u13, u14⟩ := hu1
    obtain ⟨d10, d11, d12, d13, d14⟩ := hd1
    go_wp2_with fail
    refine (minus_any _ _ _ _ _ _ xd xu (by omega) _).mono ?_
    rintro e w2 ⟨h, l, rfl, hI, hB2⟩
    go_wp2_with fail
    refine (signed_any _ _ _ hI true _).mono ?_
    rintro e w3 ⟨rfl, hB3⟩
    go_wp2_with fail
    go_ret2
    have e1 : sg (m - n) true = a - b := by have := HZ.out; simp [sg]; omega
    exact ⟨by rw [e1]; rfl, Below.next (Below.next (Below.next hb0 hB1) hB2) hB3⟩
  · go_wp2_with fail
    refine (less_any _ _ _ _ _ _ xu xd _).mono ?_
    rintro e w1 ⟨rfl, hB1⟩
    rw [ltB_f (by omega)]
    have hu1 := hu.later hB1
    have hd1 := hd.later hB1
    obtain ⟨u10, u11, u12, u13, u14⟩ := hu1
    obtain ⟨d10, d11, d12, d13, d14⟩ := hd1
    go_wp2_with fail
    refine (minus_any _ _ _ _ _ _ xu xd (by omega) _).mono ?_
    rintro e w2 ⟨h, l, rfl, hI, hB2⟩
    go_wp2_with fail
    refine (signed_any _ _ _ hI false _).mono ?_
    rintro e w3 ⟨rfl, hB3⟩
    go_wp2_with fail
    go_ret2
    have e1 : sg (n - m) false = a - b := by have := HZ.out; simp [sg]; omega
    exact ⟨by rw [e1]; rfl, Below.next (Below.next (Below.next hb0 hB1) hB2) hB3⟩
end Go.Proofs.YtfjefanhkbcfgaaGreatDoor
/- Contracts of Trunc and Floor of the specification. -/
namespace Go.Proofs.YtfjefanhkbcfgaaGreatDoor
open Go.RowKit

set_option maxHeartbeats 400000 in
theorem rtrunc_any (a : Int) (h : InI a) (w : World) :
    Calls Tryz.prog 87 #[.int .i64 a] w fun e w' => e = .returned (.int .i64 (truncZ a)) ∧ w = w' := by
  have e1 := Lib.hid (trunc_eq2 h)
  clear h
  go_enter Tryz.func87, Tryz.ntmps87
  go_wp2
  go_ret

  exact ⟨retI e1.out, rfl⟩
set_option maxHeartbeats 400000 in
theorem rfloor_any (a : Int) (h : InI a) (w : World) :
    Calls Tryz.prog 86 #[.int .i64 a] w fun e w' => e = .returned (.tuple #[.int .i64 (resV (floorZ a)), .bool (resB (floorZ a))]) ∧ Below w.heap.size w w' := by
  have ht := Lib.hid (trunc_bd h)
  have HA := Lib.hid h
  clear h
  by_cases hc : a < truncZ a
  · have e1 : floorZ a = truncZ a - 10000 := by unfold floorZ; rw [if_pos hc]
    have h0 : a < 0 := by
      rcases Int.lt_or_le a 0 with h | h
      · exact h
      · have := trunc_pos h; omega
    have hne : (truncZ a != a) = true := by rw [bne_iff_ne]; omega
    rw [e1]
    clear e1
    go_enter Tryz.func86, Tryz.ntmps86
    go_wp2_with fail
    refine (rtrunc_any a HA.out _).mono ?_
    rintro e w' ⟨rfl, rfl⟩
    go_wp2_with fail
    refine (rsub_any _ 10000 ht.out.1 (by unfold InI; omega) _).mono ?_
    rintro e w' ⟨rfl, hB⟩
    go_wp2_with fail
    go_ret2
    exact ⟨rfl, hB⟩
  · have e1 : floorZ a = truncZ a := by unfold floorZ; rw [if_neg hc]
    rw [e1]
    clear e1
    have hfin := Lib.hid (sg_size (truncZ a))
    by_cases h0 : a < 0
    · have hne : (truncZ a != a) = false := by
        have := trunc_neg h0
        have : truncZ a = a := by omega
        simp [this]
      go_enter Tryz.func86, Tryz.ntmps86
      go_wp2_with fail
      refine (rtrunc_any a HA.out _).mono ?_
      rintro e w' ⟨rfl, rfl⟩
      go_wp2_with fail
      refine (rsize_any _ ht.out.1 _).mono ?_
      rintro e w' ⟨rfl, rfl⟩
      go_wp2_with fail
      refine (signed_any _ _ _ (size_lo ht.out.1) _ _).mono ?_
      rintro e w' ⟨rfl, hB⟩
      rw [hfin.out]
      go_wp2_with fail
      go_ret2
      exact ⟨rfl, hB⟩
    · go_enter Tryz.func86, Tryz.ntmps86
      go_wp2_with fail
      refine (rtrunc_any a HA.out _).mono ?_
      rintro e w' ⟨rfl, rfl⟩
      go_wp2_with fail
      refine (rsize_any _ ht.out.1 _).mono ?_
      rintro e w' ⟨rfl, rfl⟩
      go_wp2_with fail
      refine (signed_any _ _ _ (size_lo ht.out.1) _ _).mono ?_
      rintro e w' ⟨rfl, hB⟩
      rw [hfin.out]
      go_wp2_with fail
      go_ret2
      exact ⟨rfl, hB⟩
end Go.Proofs.YtfjefanhkbcfgaaGreatDoor
