/- The contract of the specification's difference of two numbers (louvreref01.Sub). -/
import Derived.Test.YtdanbabamcdebaaGreatDoorHold
namespace Go.Proofs.YtdanbabamcdebaaGreatDoor
open Go.RowKit

set_option maxHeartbeats 800000 in
theorem rsub_any (a b : Int) (ha : InI a) (hb : InI b) (w : World) :
    Calls Tryz.prog 48 #[.int .i64 a, .int .i64 b] w fun e w' => e = .returned (.tuple #[.int .i64 (resV (a - b)), .bool (resB (a - b))]) ∧ Below w.heap.size w w' := by
  have HA := Lib.hid ha
  have HB := Lib.hid hb
  clear ha hb
  go_enter Tryz.func48, Tryz.ntmps48
  go_upto_if 11 with (fail)
  go_cut [] (fun wx => Pair w wx w.heap.size a 1)
  case first =>
    have q1 : Hold ((w.alloc (.cells #[.int .u64 0, .int .u64 0] 85)).alloc (.cells #[.int .u64 0, .int .u64 0] 85)) w.heap.size 0 0 := Hold.new.later ((Below.refl _ _).alloc (by simp) _)
    have q2 : Hold ((w.alloc (.cells #[.int .u64 0, .int .u64 0] 85)).alloc (.cells #[.int .u64 0, .int .u64 0] 85)) (w.heap.size + 1) 0 0 := by have := Hold.new (w := w.alloc (.cells #[.int .u64 0, .int .u64 0] 85)) (h := 0) (l := 0) (t := 85); simpa using this
    have hb0 : Below w.heap.size w ((w.alloc (.cells #[.int .u64 0, .int .u64 0] 85)).alloc (.cells #[.int .u64 0, .int .u64 0] 85)) := ((Below.refl _ _).alloc (by simp) _).alloc (by simp) _
    have hs := Lib.hid (size_bd HA.out)
    by_cases h1 : a < 0
    · go_wp2_with (fail)
      go_region_with (first | (go_at_call 87; refine (rsize_any _ HA.out _).mono ?_; rintro e w' ⟨rfl, rfl⟩) | (go_at_call 96; refine (plus_any _ _ _ _ _ _ IsW.zero (size_lo HA.out) (by have := hs.out; omega) _).mono ?_; rintro e w1 ⟨h, l, rfl, hI, hB⟩; obtain ⟨hc, hf⟩ := bcell hB; simp at hc hf))
      all_goals
        go_wp2_with fail
        go_meet
        exact (Pair.down (k := 0) (Nat.le_refl _) q1.drew q2.drew hb0.drew IsW.zero rfl (by omega) (by omega) hB hI hs.out).as (by rw [size_n h1]; omega)
    · go_wp2_with (fail)
      go_region_with (first | (go_at_call 87; refine (rsize_any _ HA.out _).mono ?_; rintro e w' ⟨rfl, rfl⟩) | (go_at_call 96; refine (plus_any _ _ _ _ _ _ IsW.zero (size_lo HA.out) (by have := hs.out; omega) _).mono ?_; rintro e w1 ⟨h, l, rfl, hI, hB⟩; obtain ⟨hc, hf⟩ := bcell hB; simp at hc hf))
      all_goals
        go_wp2_with fail
        go_meet
        exact (Pair.up (k := 0) (Nat.le_refl _) q1.drew q2.drew hb0.drew IsW.zero rfl (by omega) (by omega) hB hI hs.out).as (by rw [size_p (by omega)]; omega)
  case rest =>
  rename_i wc
  obtain ⟨uh, ul, dh, dl, n, m, hu, hd, hb0, xu, xd, hz, hn, hm⟩ := hcut
  have HZ := Lib.hid hz
  clear hz
  obtain ⟨u0, u1, u2, u3, u4⟩ := id hu
  obtain ⟨d0, d1, d2, d3, d4⟩ := id hd
  go_upto_if 23 with (fail)
  go_cut [] (fun wx => Pair w wx w.heap.size (a - b) 2)
  case first =>
    have hs := Lib.hid (size_bd HB.out)
    by_cases h1 : b < 0
    · go_wp2_with (fail)
      go_region_with (first | (go_at_call 87; refine (rsize_any _ HB.out _).mono ?_; rintro e w' ⟨rfl, rfl⟩) | (go_at_call 96; refine (plus_any _ _ _ _ _ _ xu (size_lo HB.out) (by have := hs.out; omega) _).mono ?_; rintro e w1 ⟨h, l, rfl, hI, hB⟩; obtain ⟨hc, hf⟩ := bcell hB; simp at hc hf))
      all_goals
        go_wp2_with fail
        go_meet
        exact (Pair.up (k := 1) (Nat.le_refl _) hu.drew hd.drew hb0.drew xd HZ.out hn hm hB hI hs.out).as (by rw [size_n h1]; omega)
    · go_wp2_with (fail)
      go_region_with (first | (go_at_call 87; refine (rsize_any _ HB.out _).mono ?_; rintro e w' ⟨rfl, rfl⟩) | (go_at_call 96; refine (plus_any _ _ _ _ _ _ xd (size_lo HB.out) (by have := hs.out; omega) _).mono ?_; rintro e w1 ⟨h, l, rfl, hI, hB⟩; obtain ⟨hc, hf⟩ := bcell hB; simp at hc hf))
      all_goals
        go_wp2_with fail
        go_meet
        exact (Pair.down (k := 1) (Nat.le_refl _) hu.drew hd.drew hb0.drew xu HZ.out hn hm hB hI hs.out).as (by rw [size_p (by omega)])
  case rest =>
  clear u0 u1 u2 u3 u4 d0 d1 d2 d3 d4 hu hd hb0 xu xd HZ hn hm
  obtain ⟨uh, ul, dh, dl, n, m, hu, hd, hb0, xu, xd, hz, hn, hm⟩ := hcut
  have HZ := Lib.hid hz
  clear hz
  obtain ⟨u0, u1, u2, u3, u4⟩ := id hu
  obtain ⟨d0, d1, d2, d3, d4⟩ := id hd
  by_cases hlt : n < m
  · go_wp2_with fail
    refine (less_any _ _ _ _ _ _ xu xd _).mono ?_
    rintro e w1 ⟨rfl, hB1⟩
    rw [ltB_t hlt]
    have hu1 := hu.later hB1
    have hd1 := hd.later hB1
    obtain ⟨u10, u11, u12, u13, u14⟩ := hu1
    obtain ⟨d10, d11, d12, d13, d14⟩ := hd1
    go_wp2_with fail
    refine (minus_any _ _ _ _ _ _ xd xu (by omega) _).mono ?_
    rintro e w2 ⟨h, l, rfl, hI, hB2⟩
    go_wp2_with fail
    refine (signed_any _ _ _ hI true _).mono ?_
    rintro e w3 ⟨rfl, hB3⟩
    go_wp2_with fail
    go_ret2
    have e1 : sg (m - n) true = a - b := by have := HZ.out; simp [sg]; omega
    exact ⟨by rw [e1]; rfl, Below.next (Below.next (Below.next hb0 hB1) hB2) hB3⟩
  · go_wp2_with fail
    refine (less_any _ _ _ _ _ _ xu xd _).mono ?_
    rintro e w1 ⟨rfl, hB1⟩
    rw [ltB_f (by omega)]
    have hu1 := hu.later hB1
    have hd1 := hd.later hB1
    obtain ⟨u10, u11, u12, u13, u14⟩ := hu1
    obtain ⟨d10, d11, d12, d13, d14⟩ := hd1
    go_wp2_with fail
    refine (minus_any _ _ _ _ _ _ xu xd (by omega) _).mono ?_
    rintro e w2 ⟨h, l, rfl, hI, hB2⟩
    go_wp2_with fail
    refine (signed_any _ _ _ hI false _).mono ?_
    rintro e w3 ⟨rfl, hB3⟩
    go_wp2_with fail
    go_ret2
    have e1 : sg (n - m) false = a - b := by have := HZ.out; simp [sg]; omega
    exact ⟨by rw [e1]; rfl, Below.next (Below.next (Below.next hb0 hB1) hB2) hB3⟩
end Go.Proofs.YtdanbabamcdebaaGreatDoor
