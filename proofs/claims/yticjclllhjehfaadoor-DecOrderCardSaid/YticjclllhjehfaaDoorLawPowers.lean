/- The statement DecPowers: powers are repeated products. -/
import Derived.Test.YticjclllhjehfaaDoorKnown
import Derived.Test.YticjclllhjehfaaDoorDecPow
namespace Go.Proofs.YticjclllhjehfaaDoor
open Go.RowKit

theorem power_b (a n : Int) (ha : InI a) (hn0 : -9223372036854775808 ≤ n) (w : World) :
    Calls Tryd.prog 31 #[.int .i64 a, .int .i64 n] w fun e w' => e = .returned (.tuple #[.int .i64 (powV a n), .bool (powB a n)]) ∧ Below w.heap.size w w' := by
  refine (power_any a n ha hn0 w).mono ?_
  rintro e w1 ⟨he, k, rfl⟩
  exact ⟨he, below_drewN w k⟩
/-- What Quo returns. -/
def quoV (a b : Int) : Int := if b = 0 then 0 else resV (quoZ a b)
def quoB (a b : Int) : Bool := if b = 0 then false else resB (quoZ a b)
theorem quo_b (a b : Int) (ha : InI a) (hb : InI b) (w : World) :
    Calls Tryd.prog 26 #[.int .i64 a, .int .i64 b] w fun e w' => e = .returned (.tuple #[.int .i64 (quoV a b), .bool (quoB a b)]) ∧ Below w.heap.size w w' := by
  by_cases h : b = 0
  · subst h
    refine (quo_zero a w).mono ?_
    rintro e w1 ⟨he, rfl⟩
    exact ⟨by simpa [quoV, quoB] using he, Below.refl _ _⟩
  · refine (quo_any a b ha hb h w).mono ?_
    rintro e w1 ⟨he, k, rfl⟩
    exact ⟨by simpa [quoV, quoB, h] using he, below_drewN w k⟩

theorem pw_facts {a : Int} {k : Nat} (hk : k ≤ 1000) : powV a k = pwV a k ∧ powB a k = pwB a k := by
  constructor
  · unfold powV; rw [if_neg (by omega), if_pos (by omega), Int.toNat_natCast]
  · unfold powB; rw [if_neg (by omega), if_pos (by omega), Int.toNat_natCast]
theorem pw_none_of {a : Int} {k : Nat} (h : pwB a k = false) : powZ a k = none := by
  cases hp : powZ a k with
  | none => rfl
  | some q => rw [(pw_some hp).2] at h; cases h
theorem pw_true' {a : Int} {k : Nat} (h : pwB a k = true) : powZ a k = some (pwV a k) := by
  cases hp : powZ a k with
  | none => rw [(pw_none hp).2] at h; cases h
  | some q => rw [(pw_some hp).1]
theorem pw_step' {a : Int} {k : Nat} (h : pwB a k = true) : pwV a (k + 1) = resV (mulZ (pwV a k) a) ∧ pwB a (k + 1) = resB (mulZ (pwV a k) a) := by
  have hp := pw_true' h
  cases hb : resB (mulZ (pwV a k) a)
  · rw [(pw_none (powZ_no hp hb)).1, (pw_none (powZ_no hp hb)).2, resV_no hb]; exact ⟨rfl, rfl⟩
  · rw [(pw_some (powZ_yes hp hb)).1, (pw_some (powZ_yes hp hb)).2, resV_of hb]; exact ⟨rfl, rfl⟩
theorem pw_stop {a : Int} {k : Nat} (h : pwB a k = false) : pwV a k = 0 ∧ pwB a (k + 1) = false := by
  have hn := pw_none_of h
  exact ⟨(pw_none hn).1, (pw_none (powZ_none hn (Nat.le_succ k))).2⟩
theorem pw_neg {a : Int} {k : Nat} (h : pwB a k = true) (h1 : 1 ≤ k) (hk : k ≤ 1000) : powV a (-(k : Int)) = quoV 10000 (pwV a k) ∧ powB a (-(k : Int)) = quoB 10000 (pwV a k) := by
  constructor
  · unfold powV quoV
    rw [if_neg (by omega), if_neg (by omega), Int.neg_neg, Int.toNat_natCast, h]
    by_cases h0 : pwV a k = 0
    · rw [if_neg (by simp [h0]), if_pos h0]
    · rw [if_pos ⟨rfl, h0⟩, if_neg h0]
  · unfold powB quoB
    rw [if_neg (by omega), if_neg (by omega), Int.neg_neg, Int.toNat_natCast, h]
    by_cases h0 : pwV a k = 0
    · rw [if_neg (by simp [h0]), if_pos h0]
    · rw [if_pos ⟨rfl, h0⟩, if_neg h0]
theorem pwV_InI (a : Int) (k : Nat) : InI (pwV a k) := by
  cases hp : powZ a k with
  | none => rw [(pw_none hp).1]; unfold InI; omega
  | some q => rw [(pw_some hp).1]; exact powZ_InI hp
theorem mul_one_size {a : Int} : mulZ 10000 a = a := by
  unfold mulZ
  have e : sizeOf' 10000 = 10000 := by unfold sizeOf'; rw [if_neg (by omega)]
  rw [e]
  have e2 : (10000 * sizeOf' a + 5000) / 10000 = sizeOf' a := by omega
  rw [e2]
  have e3 : decide ((10000 : Int) < 0) = false := by decide
  rw [e3]
  by_cases h : a < 0
  · rw [size_n h]; simp [sg, h]
  · rw [size_p h]; simp [sg, h]
theorem pw_one {a : Int} : powV a 1 = resV a ∧ powB a 1 = resB a := by
  have h := pw_facts (a := a) (k := 1) (by omega)
  have h0 : pwB a 0 = true ∧ pwV a 0 = 10000 := by unfold pwB pwV optB optV powZ; exact ⟨rfl, rfl⟩
  have hs := pw_step' (a := a) (k := 0) h0.1
  rw [h0.2, mul_one_size] at hs
  exact ⟨h.1.trans hs.1, h.2.trans hs.2⟩

set_option maxHeartbeats 1600000 in
theorem decPowers_any (a n : Int) (ha : InI a) (hn : InI n) (w : World) :
    Calls Tryd.prog 11 #[.int .i64 a, .int .i64 n] w fun e w' => e = .returned (.bool true) ∧ Below w.heap.size w w' := by
  have HA := Lib.hid ha
  clear ha
  by_cases h1 : n < 0
  · clear hn
    go_enter Tryd.func11, Tryd.ntmps11
    go_wp2_with fail
    refine (known_any _).mono ?_
    rintro e w1 ⟨rfl, hB⟩
    go_wp2_with fail
    go_ret
    exact ⟨rfl, hB⟩
  · by_cases h2 : 40 < n
    · clear hn
      go_enter Tryd.func11, Tryd.ntmps11
      go_wp2_with fail
      refine (known_any _).mono ?_
      rintro e w1 ⟨rfl, hB⟩
      go_wp2_with fail
      go_ret
      exact ⟨rfl, hB⟩
    · obtain ⟨k, rfl⟩ := Int.eq_ofNat_of_zero_le (show 0 ≤ n by omega)
      have hk : k ≤ 40 := by omega
      clear h1 h2 hn
      have f1 := Lib.hid (pw_facts (a := a) (k := k) (by omega))
      have f2 : Hid (powV a ((k : Int) + 1) = pwV a (k + 1) ∧ powB a ((k : Int) + 1) = pwB a (k + 1)) := pw_facts (a := a) (k := k + 1) (by omega)
      have fI := Lib.hid (pwV_InI a k)
      have f9 := Lib.hid (pw_one (a := a))
      go_enter Tryd.func11, Tryd.ntmps11
      go_wp2_with fail
      refine (power_b a k HA.out (by omega) _).mono ?_
      rintro e w1 ⟨rfl, hB1⟩
      rw [f1.out.1, f1.out.2]
      go_wp2_with fail
      refine (power_b a ((k : Int) + 1) HA.out (by omega) _).mono ?_
      rintro e w2 ⟨rfl, hB2⟩
      rw [f2.out.1, f2.out.2]
      cases hb : pwB a k
      · have f3 := Lib.hid (pw_stop hb)
        rw [f3.out.1, f3.out.2]
        clear hb
        go_wp2_with fail
        refine (power_b a 1 HA.out (by omega) _).mono ?_
        rintro e w8 ⟨rfl, hB8⟩
        rw [f9.out.1, f9.out.2]
        by_cases hm : a = -9223372036854775808
        · have g1 : resV a = 0 := resV_f (by omega)
          have g2 : resB a = false := resB_f (by omega)
          rw [g1, g2]
          clear g1 g2
          have hm' : a < -9223372036854775807 := by omega
          clear hm
          go_wp2_with fail
          refine (known_any _).mono ?_
          rintro e w9 ⟨rfl, hB9⟩
          go_wp2_with fail
          go_ret
          exact ⟨rfl, Below.next (Below.next (Below.next hB1 hB2) hB8) hB9⟩
        · have g1 : resV a = a := resV_t (by have := HA.out; unfold InI at this; omega)
          have g2 : resB a = true := resB_t (by have := HA.out; unfold InI at this; omega)
          rw [g1, g2]
          clear g1 g2 hm
          go_wp2_with fail
          refine (known_any _).mono ?_
          rintro e w9 ⟨rfl, hB9⟩
          go_wp2_with fail
          go_ret
          exact ⟨rfl, Below.next (Below.next (Below.next hB1 hB2) hB8) hB9⟩
      · have f3 := Lib.hid (pw_step' hb)
        have f4 : Hid (1 ≤ k → powV a (-(k : Int)) = quoV 10000 (pwV a k) ∧ powB a (-(k : Int)) = quoB 10000 (pwV a k)) := fun h1 => pw_neg hb h1 (by omega)
        rw [f3.out.1, f3.out.2]
        clear hb
        go_wp2_with fail
        refine (mul_b _ a fI.out HA.out _).mono ?_
        rintro e w3 ⟨rfl, hB3⟩
        go_wp2_with fail
        refine (quo_b 10000 _ (by unfold InI; omega) fI.out _).mono ?_
        rintro e w4 ⟨rfl, hB4⟩
        go_wp2_with fail
        refine (power_b a (-(k : Int)) HA.out (by omega) _).mono ?_
        rintro e w5 ⟨rfl, hB5⟩
        have hB := Below.next (Below.next (Below.next (Below.next hB1 hB2) hB3) hB4) hB5
        cases hr : resB (mulZ (pwV a k) a)
        all_goals
          by_cases hk1 : 1 ≤ k
          · rw [(f4.out hk1).1, (f4.out hk1).2]
            go_wp2_with fail
            refine (power_b a 1 HA.out (by omega) _).mono ?_
            rintro e w8 ⟨rfl, hB8⟩
            rw [f9.out.1, f9.out.2]
            by_cases hm : a = -9223372036854775808
            · have g1 : resV a = 0 := resV_f (by omega)
              have g2 : resB a = false := resB_f (by omega)
              rw [g1, g2]
              clear g1 g2
              have hm' : a < -9223372036854775807 := by omega
              clear hm
              go_wp2_with fail
              refine (known_any _).mono ?_
              rintro e w9 ⟨rfl, hB9⟩
              go_wp2_with fail
              go_ret
              exact ⟨rfl, Below.next (Below.next hB hB8) hB9⟩
            · have g1 : resV a = a := resV_t (by have := HA.out; unfold InI at this; omega)
              have g2 : resB a = true := resB_t (by have := HA.out; unfold InI at this; omega)
              rw [g1, g2]
              clear g1 g2 hm
              go_wp2_with fail
              refine (known_any _).mono ?_
              rintro e w9 ⟨rfl, hB9⟩
              go_wp2_with fail
              go_ret
              exact ⟨rfl, Below.next (Below.next hB hB8) hB9⟩
          · go_wp2_with fail
            refine (power_b a 1 HA.out (by omega) _).mono ?_
            rintro e w8 ⟨rfl, hB8⟩
            rw [f9.out.1, f9.out.2]
            by_cases hm : a = -9223372036854775808
            · have g1 : resV a = 0 := resV_f (by omega)
              have g2 : resB a = false := resB_f (by omega)
              rw [g1, g2]
              clear g1 g2
              have hm' : a < -9223372036854775807 := by omega
              clear hm
              go_wp2_with fail
              refine (known_any _).mono ?_
              rintro e w9 ⟨rfl, hB9⟩
              go_wp2_with fail
              go_ret
              exact ⟨rfl, Below.next (Below.next hB hB8) hB9⟩
            · have g1 : resV a = a := resV_t (by have := HA.out; unfold InI at this; omega)
              have g2 : resB a = true := resB_t (by have := HA.out; unfold InI at this; omega)
              rw [g1, g2]
              clear g1 g2 hm
              go_wp2_with fail
              refine (known_any _).mono ?_
              rintro e w9 ⟨rfl, hB9⟩
              go_wp2_with fail
              go_ret
              exact ⟨rfl, Below.next (Below.next hB hB8) hB9⟩
end Go.Proofs.YticjclllhjehfaaDoor
