/- The statement DecPlaces: rounding. -/
import Derived.Test.YticjclllhjehfaaDoorKnown
import Derived.Test.YticjclllhjehfaaDoorDecRound
import Derived.Test.YticjclllhjehfaaDoorDecPow
namespace Go.Proofs.YticjclllhjehfaaDoor
open Go.RowKit

set_option maxHeartbeats 400000 in
theorem distance_any (a b : Int) (ha : InI a) (hb : InI b) (w : World) :
    Calls Tryd.prog 32 #[.int .i64 a, .int .i64 b] w fun e w' => e = .returned (.int .u64 (sizeOf' (a - b))) ∧ w = w' := by
  obtain ⟨a0, a1⟩ := ha
  obtain ⟨b0, b1⟩ := hb
  by_cases h : a < b
  · have e : Hid (IntKind.u64.wrap (IntKind.u64.wrap b - IntKind.u64.wrap a) = sizeOf' (a - b)) := by
      unfold Hid; rw [size_n (by omega)]; simp only [wrap_u64]; omega
    go_enter Tryd.func32, Tryd.ntmps32
    go_wp2
    go_ret
    exact ⟨retI e.out, rfl⟩
  · have e : Hid (IntKind.u64.wrap (IntKind.u64.wrap a - IntKind.u64.wrap b) = sizeOf' (a - b)) := by
      unfold Hid; rw [size_p (by omega)]; simp only [wrap_u64]; omega
    go_enter Tryd.func32, Tryd.ntmps32
    go_wp2
    go_ret
    exact ⟨retI e.out, rfl⟩

theorem rnd_eq {a : Int} {m : Nat} (hm : m ≤ 18) : rndV a (4 - (m : Int)) = resV (roundZ a m) ∧ rndB a (4 - (m : Int)) = resB (roundZ a m) := by
  by_cases h : m = 0
  · subst h
    have e : roundZ a 0 = a := by
      unfold roundZ
      rw [p10_zero, show (sizeOf' a + 1 / 2) / 1 * 1 = sizeOf' a by omega]
      exact sg_size a
    rw [e]
    unfold rndV rndB
    rw [if_pos (by omega), if_pos (by omega)]
    exact ⟨rfl, rfl⟩
  · unfold rndV rndB
    rw [if_neg (by omega), if_neg (by omega), if_neg (by omega), if_neg (by omega), show (4 - (4 - (m : Int))).toNat = m by omega]
    exact ⟨rfl, rfl⟩
theorem sg_abs (n : Int) (b : Bool) (h : 0 ≤ n) : sizeOf' (sg n b) = n := by
  unfold sizeOf' sg
  cases b
  · simp; omega
  · simp; omega
/-- What is asked of a rounded number. -/
theorem round_facts {a : Int} {m : Nat} (h : InI a) : roundZ (roundZ a m) m = roundZ a m ∧ (roundZ a m).tmod (p10 m) = 0 ∧ 2 * sizeOf' (roundZ a m - a) ≤ p10 m := by
  have hp := p10_pos m
  have hs := size_bd' h
  obtain ⟨r0, r1, r2, r3⟩ := round_bd (s := sizeOf' a) (d := p10 m) hs.1 hp
  have hq := Int.ediv_mul_add_emod (sizeOf' a + p10 m / 2) (p10 m)
  have hm0 := Int.emod_nonneg (sizeOf' a + p10 m / 2) (show p10 m ≠ 0 by omega)
  have hm1 := Int.emod_lt_of_pos (sizeOf' a + p10 m / 2) (show 0 < p10 m by omega)
  obtain ⟨q, hqe⟩ : ∃ q, (sizeOf' a + p10 m / 2) / p10 m = q := ⟨_, rfl⟩
  have eR : roundZ a m = sg (q * p10 m) (decide (a < 0)) := by unfold roundZ; rw [hqe]
  rw [hqe] at r0 r1 r2 r3 hq
  have eS : sizeOf' (roundZ a m) = q * p10 m := by rw [eR]; exact sg_abs _ _ r0
  refine ⟨?_, ?_, ?_⟩
  · have e2 : (q * p10 m + p10 m / 2) / p10 m = q := by
      rw [Int.add_comm, Int.add_mul_ediv_right _ _ (by omega), Int.ediv_eq_zero_of_lt (by omega) (by omega)]; omega
    have : roundZ (roundZ a m) m = sg (q * p10 m) (decide (roundZ a m < 0)) := by
      show sg ((sizeOf' (roundZ a m) + p10 m / 2) / p10 m * p10 m) (decide (roundZ a m < 0)) = _
      rw [eS, e2]
    rw [this, ← eS]
    exact sg_size _
  · rw [eR]
    unfold sg
    cases decide (a < 0)
    · simp
    · simp
  · rw [eR]
    by_cases ha : a < 0
    · rw [size_n ha] at hq hm0 hm1 r1
      simp only [sg, ha, decide_true, if_true]
      unfold sizeOf'
      split <;> omega
    · rw [size_p ha] at hq hm0 hm1 r1
      simp only [sg, ha, decide_false]
      unfold sizeOf'
      split <;> simp_all <;> omega
theorem trunc_facts {a : Int} : (truncZ a).tmod 10000 = 0 ∧ truncZ (truncZ a) = truncZ a ∧ sizeOf' (a - truncZ a) < 10000 ∧ (0 ≤ a → truncZ a ≤ a) ∧ (a ≤ 0 → a ≤ truncZ a) := by
  have key : (truncZ a).tmod 10000 = 0 := by
    unfold truncZ
    rcases Int.le_total 0 a with h0 | h0
    · rw [Int.tmod_eq_emod_of_nonneg h0, Int.tmod_eq_emod_of_nonneg (by omega)]; omega
    · obtain ⟨b, rfl⟩ : ∃ b, a = -b := ⟨-a, by omega⟩
      have h1 : (-b).tmod 10000 = -(b % 10000) := by rw [Int.neg_tmod, Int.tmod_eq_emod_of_nonneg (by omega)]
      rw [h1, show -b - -(b % 10000) = -(b - b % 10000) by omega, Int.neg_tmod, Int.tmod_eq_emod_of_nonneg (by omega)]; omega
  refine ⟨key, ?_, ?_, ?_, ?_⟩
  · show truncZ a - (truncZ a).tmod 10000 = truncZ a
    rw [key]; omega
  · unfold truncZ
    rcases Int.le_total 0 a with h0 | h0
    · rw [Int.tmod_eq_emod_of_nonneg h0]; unfold sizeOf'; split <;> omega
    · obtain ⟨b, rfl⟩ : ∃ b, a = -b := ⟨-a, by omega⟩
      rw [Int.neg_tmod, Int.tmod_eq_emod_of_nonneg (by omega)]; unfold sizeOf'; split <;> omega
  · exact trunc_pos
  · intro h
    by_cases h0 : a < 0
    · exact trunc_neg h0
    · have : a = 0 := by omega
      subst this
      decide
theorem floor_facts {a : Int} : (floorZ a).tmod 10000 = 0 ∧ floorZ (floorZ a) = floorZ a ∧ floorZ a ≤ a ∧ sizeOf' (a - floorZ a) < 10000 := by
  obtain ⟨t1, t2, t3, t4, t5⟩ := trunc_facts (a := a)
  have hk : ∃ c, floorZ a = c * 10000 := by
    have hm : ∃ c, truncZ a = c * 10000 := by
      obtain ⟨c, hc⟩ := Int.dvd_of_tmod_eq_zero t1
      exact ⟨c, by omega⟩
    obtain ⟨c, hc⟩ := hm
    unfold floorZ
    split
    · exact ⟨c - 1, by omega⟩
    · exact ⟨c, hc⟩
  obtain ⟨c, hc⟩ := hk
  have hmod : (floorZ a).tmod 10000 = 0 := by rw [hc]; exact Int.mul_tmod_left _ _
  have hle : floorZ a ≤ a ∧ sizeOf' (a - floorZ a) < 10000 := by
    by_cases h : a < truncZ a
    · have hn : a < 0 := by
        rcases Int.lt_or_le a 0 with h' | h'
        · exact h'
        · have := t4 h'; omega
      have e : floorZ a = truncZ a - 10000 := by unfold floorZ; rw [if_pos h]
      rw [e]
      unfold sizeOf' at t3 ⊢
      split at t3 <;> split <;> omega
    · have e : floorZ a = truncZ a := by unfold floorZ; rw [if_neg h]
      rw [e]
      exact ⟨by omega, t3⟩
  have htr : truncZ (floorZ a) = floorZ a := by
    show floorZ a - (floorZ a).tmod 10000 = floorZ a
    rw [hmod]; omega
  refine ⟨hmod, ?_, hle.1, hle.2⟩
  show (if floorZ a < truncZ (floorZ a) then truncZ (floorZ a) - 10000 else truncZ (floorZ a)) = floorZ a
  rw [htr, if_neg (by omega)]

set_option maxHeartbeats 1600000 in
theorem decPlaces_any (a p : Int) (ha : InI a) (hp : InI p) (w : World) :
    Calls Tryd.prog 8 #[.int .i64 a, .int .i64 p] w fun e w' => e = .returned (.bool true) ∧ Below w.heap.size w w' := by
  have HA := Lib.hid ha
  clear ha
  by_cases h1 : p < -14
  · clear hp
    go_enter Tryd.func8, Tryd.ntmps8
    go_wp2_with fail
    refine (known_any _).mono ?_
    rintro e w1 ⟨rfl, hB⟩
    go_wp2_with fail
    go_ret
    exact ⟨rfl, hB⟩
  · by_cases h2 : 4 < p
    · clear hp
      go_enter Tryd.func8, Tryd.ntmps8
      go_wp2_with fail
      refine (known_any _).mono ?_
      rintro e w1 ⟨rfl, hB⟩
      go_wp2_with fail
      go_ret
      exact ⟨rfl, hB⟩
    · by_cases h3 : a < -9223372036854775807
      · clear hp
        go_enter Tryd.func8, Tryd.ntmps8
        go_wp2_with fail
        refine (known_any _).mono ?_
        rintro e w1 ⟨rfl, hB⟩
        go_wp2_with fail
        go_ret
        exact ⟨rfl, hB⟩
      · obtain ⟨m, hm⟩ : ∃ m : Nat, (m : Int) = 4 - p := ⟨(4 - p).toNat, by omega⟩
        have hm18 : m ≤ 18 := by omega
        obtain rfl : p = 4 - (m : Int) := by omega
        have hrnd := Lib.hid (rnd_eq (a := a) hm18)
        have hrf := Lib.hid (round_facts (a := a) (m := m) HA.out)
        clear h1 h2 hm hp
        go_enter Tryd.func8, Tryd.ntmps8
        go_wp2_with fail
        go_loop [5, 6] (fun s i => ∃ k : Nat, k ≤ m ∧ i = .int .i64 (4 - (k : Int)) ∧ s = .int .i64 (p10 k)) (fun _ i => (intOf i + 15).toNat)
        case atStart => exact ⟨0, by omega, rfl, by rw [p10_zero]⟩
        case round =>
          obtain ⟨k, hk, rfl, rfl⟩ := hrel
          have b0 := p10_pos k
          by_cases hlt : k < m
          · have b1 : p10 k ≤ 100000000000000000 := by
              have h17 : p10 17 = 100000000000000000 := by decide
              have := p10_mono (a := k) (b := 17) (by omega)
              omega
            have e3 := Lib.hid (p10_succ k)
            go_wp2_with fail
            go_round
            case rel => exact ⟨k + 1, by omega, by go_num, by rw [e3.out]⟩
            case measure => simp [intOf]; omega
          · obtain rfl : k = m := by omega
            have b1 : p10 k ≤ 1000000000000000000 := by
              have h18 : p10 18 = 1000000000000000000 := by decide
              have := p10_mono (a := k) (b := 18) (by omega)
              omega
            go_wp2_with fail
            refine (round_any a (4 - (k : Int)) HA.out (by omega) _).mono ?_
            rintro e w1 ⟨rfl, rfl⟩
            rw [hrnd.out.1, hrnd.out.2]
            have tf := Lib.hid (trunc_facts (a := a))
            have ff := Lib.hid (floor_facts (a := a))
            cases hb : resB (roundZ a k)
            · have hv := resV_no hb
              rw [hv]
              clear hv hb
              go_wp2_with fail
              refine (trunc_any a HA.out _).mono ?_
              rintro e w2 ⟨rfl, rfl⟩
              obtain ⟨t, ET⟩ : ∃ t, Hid (truncZ a = t) := ⟨_, rfl⟩
              have tI : Hid (InI t) := by rw [← ET.out]; exact (trunc_bd HA.out).1
              have t1 : t.tmod 10000 = 0 := by rw [← ET.out]; exact tf.out.1
              have t2 : Hid (truncZ t = t) := by rw [← ET.out]; exact tf.out.2.1
              have t3 : Hid (sizeOf' (a - t) < 10000) := by rw [← ET.out]; exact tf.out.2.2.1
              have t4 : Hid (0 ≤ a → t ≤ a) := by rw [← ET.out]; exact tf.out.2.2.2.1
              have t5 : Hid (a ≤ 0 → a ≤ t) := by rw [← ET.out]; exact tf.out.2.2.2.2
              rw [ET.out]
              go_wp2_with fail
              refine (trunc_any t tI.out _).mono ?_
              rintro e w3 ⟨rfl, rfl⟩
              rw [t2.out]
              go_wp2_with fail
              refine (distance_any a t HA.out tI.out _).mono ?_
              rintro e w6 ⟨rfl, rfl⟩
              have t7 := t3.out
              rcases Int.lt_trichotomy a 0 with hs | hs | hs
              · have t8 : a ≤ t := t5.out (by omega)
                go_wp2_with fail
                refine (floor_any a HA.out _).mono ?_
                rintro e w4 ⟨rfl, rfl⟩
                cases hfb : resB (floorZ a)
                · have hfv := resV_no hfb
                  have hlow : ¬ -9223372036854765807 ≤ a := by
                    intro hge
                    have hf := ff.out
                    have h6 : sizeOf' (a - floorZ a) < 10000 := hf.2.2.2
                    have h7 : -9223372036854775807 ≤ floorZ a ∧ floorZ a ≤ 9223372036854775807 := by
                      have := HA.out
                      unfold InI at this
                      unfold sizeOf' at h6
                      split at h6 <;> omega
                    rw [resB_t h7] at hfb
                    cases hfb
                  rw [hfv]
                  clear hfv hfb
                  go_wp2_with fail
                  refine (known_any _).mono ?_
                  rintro e w9 ⟨rfl, hB9⟩
                  go_wp2_with fail
                  go_ret
                  exact ⟨rfl, hB9⟩
                · have hfv := Lib.hid (resV_of hfb)
                  rw [hfv.out]
                  obtain ⟨f, EF⟩ : ∃ f, Hid (floorZ a = f) := ⟨_, rfl⟩
                  have f1 : f.tmod 10000 = 0 := by rw [← EF.out]; exact ff.out.1
                  have f2 : Hid (floorZ f = f) := by rw [← EF.out]; exact ff.out.2.1
                  have f3 : f ≤ a := by rw [← EF.out]; exact ff.out.2.2.1
                  have f4 : Hid (sizeOf' (a - f) < 10000) := by rw [← EF.out]; exact ff.out.2.2.2
                  have f5 : Hid (resV f = f ∧ resB f = true) := by rw [← EF.out]; exact ⟨resV_of hfb, hfb⟩
                  have f6 : Hid (InI f) := by rw [← f5.out.1]; exact resV_InI f
                  rw [EF.out]
                  clear hfb
                  go_wp2_with fail
                  refine (floor_any f f6.out _).mono ?_
                  rintro e w5 ⟨rfl, rfl⟩
                  rw [f2.out, f5.out.1, f5.out.2]
                  go_wp2_with fail
                  refine (distance_any a f HA.out f6.out _).mono ?_
                  rintro e w6 ⟨rfl, rfl⟩
                  have f7 := f4.out
                  go_wp2_with fail
                  refine (known_any _).mono ?_
                  rintro e w9 ⟨rfl, hB9⟩
                  go_wp2_with fail
                  go_ret
                  exact ⟨rfl, hB9⟩
              · have t8 : a ≤ t := t5.out (by omega)
                have t9 : t ≤ a := t4.out (by omega)
                have s1 : 0 ≤ a := by omega
                have s2 : a ≤ 0 := by omega
                clear hs
                go_wp2_with fail
                refine (floor_any a HA.out _).mono ?_
                rintro e w4 ⟨rfl, rfl⟩
                cases hfb : resB (floorZ a)
                · have hfv := resV_no hfb
                  have hlow : ¬ -9223372036854765807 ≤ a := by
                    intro hge
                    have hf := ff.out
                    have h6 : sizeOf' (a - floorZ a) < 10000 := hf.2.2.2
                    have h7 : -9223372036854775807 ≤ floorZ a ∧ floorZ a ≤ 9223372036854775807 := by
                      have := HA.out
                      unfold InI at this
                      unfold sizeOf' at h6
                      split at h6 <;> omega
                    rw [resB_t h7] at hfb
                    cases hfb
                  exact (hlow (by omega)).elim
                · have hfv := Lib.hid (resV_of hfb)
                  rw [hfv.out]
                  obtain ⟨f, EF⟩ : ∃ f, Hid (floorZ a = f) := ⟨_, rfl⟩
                  have f1 : f.tmod 10000 = 0 := by rw [← EF.out]; exact ff.out.1
                  have f2 : Hid (floorZ f = f) := by rw [← EF.out]; exact ff.out.2.1
                  have f3 : f ≤ a := by rw [← EF.out]; exact ff.out.2.2.1
                  have f4 : Hid (sizeOf' (a - f) < 10000) := by rw [← EF.out]; exact ff.out.2.2.2
                  have f5 : Hid (resV f = f ∧ resB f = true) := by rw [← EF.out]; exact ⟨resV_of hfb, hfb⟩
                  have f6 : Hid (InI f) := by rw [← f5.out.1]; exact resV_InI f
                  rw [EF.out]
                  clear hfb
                  go_wp2_with fail
                  refine (floor_any f f6.out _).mono ?_
                  rintro e w5 ⟨rfl, rfl⟩
                  rw [f2.out, f5.out.1, f5.out.2]
                  go_wp2_with fail
                  refine (distance_any a f HA.out f6.out _).mono ?_
                  rintro e w6 ⟨rfl, rfl⟩
                  have f7 := f4.out
                  go_wp2_with fail
                  refine (known_any _).mono ?_
                  rintro e w9 ⟨rfl, hB9⟩
                  go_wp2_with fail
                  go_ret
                  exact ⟨rfl, hB9⟩
              · have t9 : t ≤ a := t4.out (by omega)
                go_wp2_with fail
                refine (floor_any a HA.out _).mono ?_
                rintro e w4 ⟨rfl, rfl⟩
                cases hfb : resB (floorZ a)
                · have hfv := resV_no hfb
                  have hlow : ¬ -9223372036854765807 ≤ a := by
                    intro hge
                    have hf := ff.out
                    have h6 : sizeOf' (a - floorZ a) < 10000 := hf.2.2.2
                    have h7 : -9223372036854775807 ≤ floorZ a ∧ floorZ a ≤ 9223372036854775807 := by
                      have := HA.out
                      unfold InI at this
                      unfold sizeOf' at h6
                      split at h6 <;> omega
                    rw [resB_t h7] at hfb
                    cases hfb
                  exact (hlow (by omega)).elim
                · have hfv := Lib.hid (resV_of hfb)
                  rw [hfv.out]
                  obtain ⟨f, EF⟩ : ∃ f, Hid (floorZ a = f) := ⟨_, rfl⟩
                  have f1 : f.tmod 10000 = 0 := by rw [← EF.out]; exact ff.out.1
                  have f2 : Hid (floorZ f = f) := by rw [← EF.out]; exact ff.out.2.1
                  have f3 : f ≤ a := by rw [← EF.out]; exact ff.out.2.2.1
                  have f4 : Hid (sizeOf' (a - f) < 10000) := by rw [← EF.out]; exact ff.out.2.2.2
                  have f5 : Hid (resV f = f ∧ resB f = true) := by rw [← EF.out]; exact ⟨resV_of hfb, hfb⟩
                  have f6 : Hid (InI f) := by rw [← f5.out.1]; exact resV_InI f
                  rw [EF.out]
                  clear hfb
                  go_wp2_with fail
                  refine (floor_any f f6.out _).mono ?_
                  rintro e w5 ⟨rfl, rfl⟩
                  rw [f2.out, f5.out.1, f5.out.2]
                  go_wp2_with fail
                  refine (distance_any a f HA.out f6.out _).mono ?_
                  rintro e w6 ⟨rfl, rfl⟩
                  have f7 := f4.out
                  go_wp2_with fail
                  refine (known_any _).mono ?_
                  rintro e w9 ⟨rfl, hB9⟩
                  go_wp2_with fail
                  go_ret
                  exact ⟨rfl, hB9⟩
            · have hv := Lib.hid (resV_of hb)
              rw [hv.out]
              obtain ⟨R, ER⟩ : ∃ R, Hid (roundZ a k = R) := ⟨_, rfl⟩
              have r1 : R.tmod (p10 k) = 0 := by rw [← ER.out]; exact hrf.out.2.1
              have r2 : Hid (roundZ R k = R) := by rw [← ER.out]; exact hrf.out.1
              have r3 : Hid (2 * sizeOf' (R - a) ≤ p10 k) := by rw [← ER.out]; exact hrf.out.2.2
              have r5 : Hid (resV R = R ∧ resB R = true) := by rw [← ER.out]; exact ⟨resV_of hb, hb⟩
              have r6 : Hid (InI R) := by rw [← r5.out.1]; exact resV_InI R
              have r7 : Hid (rndV R (4 - (k : Int)) = R ∧ rndB R (4 - (k : Int)) = true) := by
                have := rnd_eq (a := R) hm18
                rw [r2.out, r5.out.1, r5.out.2] at this
                exact this
              rw [ER.out]
              clear hb
              go_wp2_with fail
              refine (round_any R (4 - (k : Int)) r6.out (by omega) _).mono ?_
              rintro e w2 ⟨rfl, rfl⟩
              rw [r7.out.1, r7.out.2]
              go_wp2_with fail
              refine (distance_any R a r6.out HA.out _).mono ?_
              rintro e w6 ⟨rfl, rfl⟩
              have r8 := r3.out
              have r9 : 0 ≤ sizeOf' (R - a) := by unfold sizeOf'; split <;> omega
              go_wp2_with fail
              refine (trunc_any a HA.out _).mono ?_
              rintro e w2 ⟨rfl, rfl⟩
              obtain ⟨t, ET⟩ : ∃ t, Hid (truncZ a = t) := ⟨_, rfl⟩
              have tI : Hid (InI t) := by rw [← ET.out]; exact (trunc_bd HA.out).1
              have t1 : t.tmod 10000 = 0 := by rw [← ET.out]; exact tf.out.1
              have t2 : Hid (truncZ t = t) := by rw [← ET.out]; exact tf.out.2.1
              have t3 : Hid (sizeOf' (a - t) < 10000) := by rw [← ET.out]; exact tf.out.2.2.1
              have t4 : Hid (0 ≤ a → t ≤ a) := by rw [← ET.out]; exact tf.out.2.2.2.1
              have t5 : Hid (a ≤ 0 → a ≤ t) := by rw [← ET.out]; exact tf.out.2.2.2.2
              rw [ET.out]
              go_wp2_with fail
              refine (trunc_any t tI.out _).mono ?_
              rintro e w3 ⟨rfl, rfl⟩
              rw [t2.out]
              go_wp2_with fail
              refine (distance_any a t HA.out tI.out _).mono ?_
              rintro e w6 ⟨rfl, rfl⟩
              have t7 := t3.out
              rcases Int.lt_trichotomy a 0 with hs | hs | hs
              · have t8 : a ≤ t := t5.out (by omega)
                go_wp2_with fail
                refine (floor_any a HA.out _).mono ?_
                rintro e w4 ⟨rfl, rfl⟩
                cases hfb : resB (floorZ a)
                · have hfv := resV_no hfb
                  have hlow : ¬ -9223372036854765807 ≤ a := by
                    intro hge
                    have hf := ff.out
                    have h6 : sizeOf' (a - floorZ a) < 10000 := hf.2.2.2
                    have h7 : -9223372036854775807 ≤ floorZ a ∧ floorZ a ≤ 9223372036854775807 := by
                      have := HA.out
                      unfold InI at this
                      unfold sizeOf' at h6
                      split at h6 <;> omega
                    rw [resB_t h7] at hfb
                    cases hfb
                  rw [hfv]
                  clear hfv hfb
                  go_wp2_with fail
                  refine (known_any _).mono ?_
                  rintro e w9 ⟨rfl, hB9⟩
                  go_wp2_with fail
                  go_ret
                  exact ⟨rfl, hB9⟩
                · have hfv := Lib.hid (resV_of hfb)
                  rw [hfv.out]
                  obtain ⟨f, EF⟩ : ∃ f, Hid (floorZ a = f) := ⟨_, rfl⟩
                  have f1 : f.tmod 10000 = 0 := by rw [← EF.out]; exact ff.out.1
                  have f2 : Hid (floorZ f = f) := by rw [← EF.out]; exact ff.out.2.1
                  have f3 : f ≤ a := by rw [← EF.out]; exact ff.out.2.2.1
                  have f4 : Hid (sizeOf' (a - f) < 10000) := by rw [← EF.out]; exact ff.out.2.2.2
                  have f5 : Hid (resV f = f ∧ resB f = true) := by rw [← EF.out]; exact ⟨resV_of hfb, hfb⟩
                  have f6 : Hid (InI f) := by rw [← f5.out.1]; exact resV_InI f
                  rw [EF.out]
                  clear hfb
                  go_wp2_with fail
                  refine (floor_any f f6.out _).mono ?_
                  rintro e w5 ⟨rfl, rfl⟩
                  rw [f2.out, f5.out.1, f5.out.2]
                  go_wp2_with fail
                  refine (distance_any a f HA.out f6.out _).mono ?_
                  rintro e w6 ⟨rfl, rfl⟩
                  have f7 := f4.out
                  go_wp2_with fail
                  refine (known_any _).mono ?_
                  rintro e w9 ⟨rfl, hB9⟩
                  go_wp2_with fail
                  go_ret
                  exact ⟨rfl, hB9⟩
              · have t8 : a ≤ t := t5.out (by omega)
                have t9 : t ≤ a := t4.out (by omega)
                have s1 : 0 ≤ a := by omega
                have s2 : a ≤ 0 := by omega
                clear hs
                go_wp2_with fail
                refine (floor_any a HA.out _).mono ?_
                rintro e w4 ⟨rfl, rfl⟩
                cases hfb : resB (floorZ a)
                · have hfv := resV_no hfb
                  have hlow : ¬ -9223372036854765807 ≤ a := by
                    intro hge
                    have hf := ff.out
                    have h6 : sizeOf' (a - floorZ a) < 10000 := hf.2.2.2
                    have h7 : -9223372036854775807 ≤ floorZ a ∧ floorZ a ≤ 9223372036854775807 := by
                      have := HA.out
                      unfold InI at this
                      unfold sizeOf' at h6
                      split at h6 <;> omega
                    rw [resB_t h7] at hfb
                    cases hfb
                  exact (hlow (by omega)).elim
                · have hfv := Lib.hid (resV_of hfb)
                  rw [hfv.out]
                  obtain ⟨f, EF⟩ : ∃ f, Hid (floorZ a = f) := ⟨_, rfl⟩
                  have f1 : f.tmod 10000 = 0 := by rw [← EF.out]; exact ff.out.1
                  have f2 : Hid (floorZ f = f) := by rw [← EF.out]; exact ff.out.2.1
                  have f3 : f ≤ a := by rw [← EF.out]; exact ff.out.2.2.1
                  have f4 : Hid (sizeOf' (a - f) < 10000) := by rw [← EF.out]; exact ff.out.2.2.2
                  have f5 : Hid (resV f = f ∧ resB f = true) := by rw [← EF.out]; exact ⟨resV_of hfb, hfb⟩
                  have f6 : Hid (InI f) := by rw [← f5.out.1]; exact resV_InI f
                  rw [EF.out]
                  clear hfb
                  go_wp2_with fail
                  refine (floor_any f f6.out _).mono ?_
                  rintro e w5 ⟨rfl, rfl⟩
                  rw [f2.out, f5.out.1, f5.out.2]
                  go_wp2_with fail
                  refine (distance_any a f HA.out f6.out _).mono ?_
                  rintro e w6 ⟨rfl, rfl⟩
                  have f7 := f4.out
                  go_wp2_with fail
                  refine (known_any _).mono ?_
                  rintro e w9 ⟨rfl, hB9⟩
                  go_wp2_with fail
                  go_ret
                  exact ⟨rfl, hB9⟩
              · have t9 : t ≤ a := t4.out (by omega)
                go_wp2_with fail
                refine (floor_any a HA.out _).mono ?_
                rintro e w4 ⟨rfl, rfl⟩
                cases hfb : resB (floorZ a)
                · have hfv := resV_no hfb
                  have hlow : ¬ -9223372036854765807 ≤ a := by
                    intro hge
                    have hf := ff.out
                    have h6 : sizeOf' (a - floorZ a) < 10000 := hf.2.2.2
                    have h7 : -9223372036854775807 ≤ floorZ a ∧ floorZ a ≤ 9223372036854775807 := by
                      have := HA.out
                      unfold InI at this
                      unfold sizeOf' at h6
                      split at h6 <;> omega
                    rw [resB_t h7] at hfb
                    cases hfb
                  exact (hlow (by omega)).elim
                · have hfv := Lib.hid (resV_of hfb)
                  rw [hfv.out]
                  obtain ⟨f, EF⟩ : ∃ f, Hid (floorZ a = f) := ⟨_, rfl⟩
                  have f1 : f.tmod 10000 = 0 := by rw [← EF.out]; exact ff.out.1
                  have f2 : Hid (floorZ f = f) := by rw [← EF.out]; exact ff.out.2.1
                  have f3 : f ≤ a := by rw [← EF.out]; exact ff.out.2.2.1
                  have f4 : Hid (sizeOf' (a - f) < 10000) := by rw [← EF.out]; exact ff.out.2.2.2
                  have f5 : Hid (resV f = f ∧ resB f = true) := by rw [← EF.out]; exact ⟨resV_of hfb, hfb⟩
                  have f6 : Hid (InI f) := by rw [← f5.out.1]; exact resV_InI f
                  rw [EF.out]
                  clear hfb
                  go_wp2_with fail
                  refine (floor_any f f6.out _).mono ?_
                  rintro e w5 ⟨rfl, rfl⟩
                  rw [f2.out, f5.out.1, f5.out.2]
                  go_wp2_with fail
                  refine (distance_any a f HA.out f6.out _).mono ?_
                  rintro e w6 ⟨rfl, rfl⟩
                  have f7 := f4.out
                  go_wp2_with fail
                  refine (known_any _).mono ?_
                  rintro e w9 ⟨rfl, hB9⟩
                  go_wp2_with fail
                  go_ret
                  exact ⟨rfl, hB9⟩
end Go.Proofs.YticjclllhjehfaaDoor
