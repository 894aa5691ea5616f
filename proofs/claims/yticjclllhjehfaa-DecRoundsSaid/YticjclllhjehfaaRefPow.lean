/- The contract of the specification's Power, and the statement DecRounds. -/
import Derived.Test.YticjclllhjehfaaDecPow
import Derived.Test.YticjclllhjehfaaDecRound
import Derived.Test.YticjclllhjehfaaRefSqrt
namespace Go.Proofs.Yticjclllhjehfaa
open Go.RowKit

theorem pw_step {a : Int} {k : Nat} {p : Int} (h : powZ a k = some p) : pwV a (k + 1) = resV (mulZ p a) ∧ pwB a (k + 1) = resB (mulZ p a) := by
  cases hb : resB (mulZ p a)
  · rw [(pw_none (powZ_no h hb)).1, (pw_none (powZ_no h hb)).2, resV_no hb]; exact ⟨rfl, rfl⟩
  · rw [(pw_some (powZ_yes h hb)).1, (pw_some (powZ_yes h hb)).2, resV_of hb]; exact ⟨rfl, rfl⟩
theorem pw_true {a : Int} {k : Nat} (h : pwB a k = true) : powZ a k = some (pwV a k) := by
  cases hp : powZ a k with
  | none => rw [(pw_none hp).2] at h; cases h
  | some q => rw [(pw_some hp).1]
theorem pw_false {a : Int} {k m : Nat} (h : pwB a k = false) (hm : k ≤ m) : pwV a m = 0 ∧ pwB a m = false := by
  cases hp : powZ a k with
  | none => exact pw_none (powZ_none hp hm)
  | some q => rw [(pw_some hp).2] at h; cases h
theorem pw_InI (a : Int) (k : Nat) : InI (pwV a k) := by
  cases hp : powZ a k with
  | none => rw [(pw_none hp).1]; unfold InI; omega
  | some q => rw [(pw_some hp).1]; exact powZ_InI hp

set_option maxHeartbeats 1600000 in
theorem rpower_up (a : Int) (ha : InI a) (m : Nat) (hm : m ≤ 1000) (w : World) :
    Calls Try.prog 25 #[.int .i64 a, .int .i64 m] w fun e w' => e = .returned (.tuple #[.int .i64 (pwV a m), .bool (pwB a m)]) ∧ Below w.heap.size w w' := by
  have HA := Lib.hid ha
  clear ha
  go_enter Try.func25, Try.ntmps25
  go_wp2_with fail
  go_loopw [6, 7, 8] (fun s t i wr => ∃ (k : Nat), k ≤ m ∧ i = .int .i64 k ∧ s = .int .i64 (pwV a k) ∧ t = .bool (pwB a k) ∧ Below w.heap.size w wr) (fun _ _ i _ => m - (intOf i).toNat)
  case atStart => exact ⟨0, by omega, rfl, rfl, rfl, Below.refl _ _⟩
  case round =>
    rename_i wr
    obtain ⟨k, hk, rfl, rfl, rfl, hb⟩ := hrel
    cases hB : pwB a k
    · have h0 : Hid (pwV a m = 0 ∧ pwB a m = false) := pw_false hB hk
      have h1 : Hid (pwV a k = 0 ∧ pwB a k = false) := pw_false hB (Nat.le_refl _)
      rw [h1.out.1]
      clear hB
      go_wp2_with fail
      go_ret2
      exact ⟨(retIB h0.out.1 h0.out.2).symm, hb⟩
    · have hp := Lib.hid (pw_true hB)
      have hs := Lib.hid (pw_step hp.out)
      clear hB
      by_cases hlt : k < m
      · go_wp2_with fail
        refine (rmul_any _ a (pw_InI a k) HA.out _).mono ?_
        rintro e w1 ⟨rfl, hB1⟩
        go_wp2_with fail
        go_roundw
        case rel => exact ⟨k + 1, by omega, by go_num, by rw [hs.out.1], by rw [hs.out.2], Below.next hb hB1⟩
        case measure => simp [intOf]; omega
      · have h0 : Hid (pwV a m = pwV a k ∧ pwB a m = true) := by
          have hk' : k = m := by omega
          have := hp.out
          rw [hk'] at this
          rw [hk']
          exact ⟨rfl, (pw_some this).2⟩
        go_wp2_with fail
        go_ret2
        exact ⟨(retIB h0.out.1 h0.out.2).symm, hb⟩

theorem powV_dn {a : Int} {m : Nat} (h1 : 1 ≤ m) (h2 : m ≤ 1000) : powV a (-(m : Int)) = (if pwB a m = true ∧ ¬ pwV a m = 0 then resV (quoZ 10000 (pwV a m)) else 0) ∧
    powB a (-(m : Int)) = (if pwB a m = true ∧ ¬ pwV a m = 0 then resB (quoZ 10000 (pwV a m)) else false) := by
  constructor
  · unfold powV
    rw [if_neg (by omega), if_neg (by omega), Int.neg_neg, Int.toNat_natCast]
  · unfold powB
    rw [if_neg (by omega), if_neg (by omega), Int.neg_neg, Int.toNat_natCast]
set_option maxHeartbeats 1600000 in
theorem rpower_dn (a : Int) (ha : InI a) (m : Nat) (hm1 : 1 ≤ m) (hm : m ≤ 1000) (w : World) :
    Calls Try.prog 25 #[.int .i64 a, .int .i64 (-(m : Int))] w fun e w' => e = .returned (.tuple #[.int .i64 (powV a (-(m : Int))), .bool (powB a (-(m : Int)))]) ∧ Below w.heap.size w w' := by
  have HA := Lib.hid ha
  clear ha
  obtain ⟨E1, E2⟩ := powV_dn (a := a) hm1 hm
  rw [E1, E2]
  clear E1 E2
  obtain ⟨V, HV⟩ : ∃ v, Hid ((if pwB a m = true ∧ ¬ pwV a m = 0 then resV (quoZ 10000 (pwV a m)) else 0) = v) := ⟨_, rfl⟩
  obtain ⟨B, HB⟩ : ∃ v, Hid ((if pwB a m = true ∧ ¬ pwV a m = 0 then resB (quoZ 10000 (pwV a m)) else false) = v) := ⟨_, rfl⟩
  rw [HV.out, HB.out]
  go_enter Try.func25, Try.ntmps25
  go_wp2_with fail
  go_loopw [6, 7, 8] (fun s t i wr => ∃ (k : Nat), k ≤ m ∧ i = .int .i64 k ∧ s = .int .i64 (pwV a k) ∧ t = .bool (pwB a k) ∧ Below w.heap.size w wr) (fun _ _ i _ => m - (intOf i).toNat)
  case atStart => exact ⟨0, by omega, rfl, rfl, rfl, Below.refl _ _⟩
  case round =>
    rename_i wr
    obtain ⟨k, hk, rfl, rfl, rfl, hb⟩ := hrel
    cases hB : pwB a k
    · have h0 := pw_false (m := m) hB hk
      have h1 : Hid (pwV a k = 0 ∧ pwB a k = false) := pw_false hB (Nat.le_refl _)
      have e1 : Hid (V = 0 ∧ B = false) := by
        rw [← HV.out, ← HB.out, h0.2]; exact ⟨by simp, by simp⟩
      rw [h1.out.1]
      clear hB h0
      go_wp2_with fail
      go_ret2
      exact ⟨(retIB e1.out.1 e1.out.2).symm, hb⟩
    · have hp := Lib.hid (pw_true hB)
      have hs := Lib.hid (pw_step hp.out)
      by_cases hlt : k < m
      · clear hB
        go_wp2_with fail
        refine (rmul_any _ a (pw_InI a k) HA.out _).mono ?_
        rintro e w1 ⟨rfl, hB1⟩
        go_wp2_with fail
        go_roundw
        case rel => exact ⟨k + 1, by omega, by go_num, by rw [hs.out.1], by rw [hs.out.2], Below.next hb hB1⟩
        case measure => simp [intOf]; omega
      · have hk' : k = m := by omega
        have hB2 : pwB a m = true := by rw [← hk']; exact hB
        obtain ⟨p, HP⟩ : ∃ p, Hid (pwV a k = p) := ⟨_, rfl⟩
        have HPm : Hid (pwV a m = p) := by rw [← hk']; exact HP
        have HI : Hid (InI p) := by rw [← HP.out]; exact pw_InI a k
        rw [HP.out]
        by_cases hp0 : p = 0
        · have e1 : Hid (V = 0 ∧ B = false) := by
            rw [← HV.out, ← HB.out, HPm.out, if_neg (by simp [hp0]), if_neg (by simp [hp0])]; exact ⟨rfl, rfl⟩
          subst hp0
          clear hB hB2 hk'
          go_wp2_with fail
          refine (rquo_zero _ _).mono ?_
          rintro e w1 ⟨rfl, rfl⟩
          go_wp2_with fail
          go_ret2
          exact ⟨(retIB e1.out.1 e1.out.2).symm, hb⟩
        · have e1 : Hid (V = resV (quoZ 10000 p) ∧ B = resB (quoZ 10000 p)) := by
            rw [← HV.out, ← HB.out, HPm.out, if_pos ⟨hB2, hp0⟩, if_pos ⟨hB2, hp0⟩]; exact ⟨rfl, rfl⟩
          have HP0 := Lib.hid hp0
          clear hB hB2 hk' hp0
          go_wp2_with fail
          refine (rquo_any 10000 p (by unfold InI; omega) HI.out HP0.out _).mono ?_
          rintro e w1 ⟨rfl, hB1⟩
          go_wp2_with fail
          go_ret2
          exact ⟨(retIB e1.out.1 e1.out.2).symm, Below.next hb hB1⟩
set_option maxHeartbeats 800000 in
theorem rpower_any (a n : Int) (ha : InI a) (w : World) :
    Calls Try.prog 25 #[.int .i64 a, .int .i64 n] w fun e w' => e = .returned (.tuple #[.int .i64 (powV a n), .bool (powB a n)]) ∧ Below w.heap.size w w' := by
  by_cases h1 : n < -1000
  · have e1 : powV a n = 0 := by unfold powV; rw [if_pos (Or.inl h1)]
    have e2 : powB a n = false := by unfold powB; rw [if_pos (Or.inl h1)]
    rw [e1, e2]
    clear e1 e2 ha
    go_enter Try.func25, Try.ntmps25
    go_wp2_with fail
    go_ret2
    exact ⟨rfl, Below.refl _ _⟩
  · by_cases h2 : 1000 < n
    · have e1 : powV a n = 0 := by unfold powV; rw [if_pos (Or.inr h2)]
      have e2 : powB a n = false := by unfold powB; rw [if_pos (Or.inr h2)]
      rw [e1, e2]
      clear e1 e2 ha
      go_enter Try.func25, Try.ntmps25
      go_wp2_with fail
      go_ret2
      exact ⟨rfl, Below.refl _ _⟩
    · by_cases h3 : 0 ≤ n
      · obtain ⟨m, rfl⟩ := Int.eq_ofNat_of_zero_le h3
        have e1 : powV a m = pwV a m := by unfold powV; rw [if_neg (by omega), if_pos h3, Int.toNat_natCast]
        have e2 : powB a m = pwB a m := by unfold powB; rw [if_neg (by omega), if_pos h3, Int.toNat_natCast]
        rw [e1, e2]
        exact rpower_up a ha m (by omega) w
      · obtain ⟨m, hm⟩ : ∃ m : Nat, (m : Int) = -n := ⟨(-n).toNat, by omega⟩
        obtain rfl : n = -(m : Int) := by omega
        exact rpower_dn a ha m (by omega) (by omega) w
set_option maxHeartbeats 1600000 in
theorem decRounds_any (a p n : Int) (ha : InI a) (hp : InI p) (hn : InI n) (w : World) :
    Calls Try.prog 5 #[.int .i64 a, .int .i64 p, .int .i64 n] w fun e w' => e = .returned (.bool true) ∧ Below w.heap.size w w' := by
  have HA := Lib.hid ha
  have HP := Lib.hid hp
  have HN := Lib.hid hn
  clear ha hp hn
  go_enter Try.func5, Try.ntmps5
  go_wp2_with fail
  refine (round_any a p HA.out HP.out.1 _).mono ?_
  rintro e w1 ⟨rfl, rfl⟩
  go_wp2_with fail
  refine (rround_any a p HA.out HP.out.1 _).mono ?_
  rintro e w1 ⟨rfl, hB1⟩
  go_wp2_with fail
  refine (trunc_any a HA.out _).mono ?_
  rintro e w2 ⟨rfl, rfl⟩
  go_wp2_with fail
  refine (rtrunc_any a HA.out _).mono ?_
  rintro e w2 ⟨rfl, rfl⟩
  go_wp2_with fail
  refine (floor_any a HA.out _).mono ?_
  rintro e w2 ⟨rfl, rfl⟩
  go_wp2_with fail
  refine (rfloor_any a HA.out _).mono ?_
  rintro e w2 ⟨rfl, hB2⟩
  by_cases h0 : a < 0
  · go_wp2_with fail
    refine (sqrt_neg a h0 _).mono ?_
    rintro e w3 ⟨rfl, rfl⟩
    go_wp2_with fail
    refine (rsqrt_neg a h0 _).mono ?_
    rintro e w3 ⟨rfl, rfl⟩
    go_wp2_with fail
    refine (power_any a n HA.out HN.out.1 _).mono ?_
    rintro e w3 ⟨rfl, k, rfl⟩
    go_wp2_with fail
    refine (rpower_any a n HA.out _).mono ?_
    rintro e w4 ⟨rfl, hB4⟩
    go_wp2_with fail
    go_ret
    exact ⟨rfl, Below.next (Below.next (Below.next hB1 hB2) (below_drewN _ _)) hB4⟩
  · go_wp2_with fail
    refine (sqrt_any a (by omega) HA.out.2 _).mono ?_
    rintro e w3 ⟨r, rfl, hr, rfl⟩
    have HR := Lib.hid hr
    clear hr
    go_wp2_with fail
    refine (rsqrt_any a (by omega) HA.out.2 _).mono ?_
    rintro e w3 ⟨t, rfl, ht, hB3⟩
    obtain rfl := HR.out.unique ht
    clear ht
    go_wp2_with fail
    refine (power_any a n HA.out HN.out.1 _).mono ?_
    rintro e w4 ⟨rfl, k, rfl⟩
    go_wp2_with fail
    refine (rpower_any a n HA.out _).mono ?_
    rintro e w4 ⟨rfl, hB4⟩
    go_wp2_with fail
    go_ret
    exact ⟨rfl, Below.next (Below.next (Below.next (Below.next hB1 hB2) hB3) (below_drewN _ _)) hB4⟩
end Go.Proofs.Yticjclllhjehfaa
