/- Merged: Div DecMul DecSqrt DecPow. -/
import Derived.Test.YtfjefanhkbcfgaaGreatDoorBits
import Derived.Test.YtfjefanhkbcfgaaGreatDoorDivMath
import Derived.Deep.CutBlock
import Derived.Deep.QuietTactic
import Derived.BigQuiet
import Derived.Deep.DeepCutAuto
/- The contract of math/bits.Div64: the quotient of a number of 128 bits, if it is less than 2^64; and of dec.ratio. -/
namespace Go.Proofs.YtfjefanhkbcfgaaGreatDoor
open Go.RowKit
set_option maxRecDepth 100000 in
set_option maxHeartbeats 1600000 in
theorem div64_big (hi lo y : Int) (h0 : 1 ≤ hi) (l0 : 0 ≤ lo) (l1 : lo ≤ 18446744073709551615) (y1 : y ≤ 18446744073709551615) (hy : hi < y) (w : World) :
    Calls Tryz.prog 197 #[.int .u64 hi, .int .u64 lo, .int .u64 y] w fun e w' => ∃ r, e = .returned (.tuple #[.int .u64 (quo128 hi lo y), .int .u64 r]) ∧ w = w' := by
  obtain ⟨s, P, hs, hs63, hP, hpow, hw, hn1, hn2, hu, hu0, hu1⟩ := norm_facts h0 l0 l1 y1 hy
  have HS := Lib.hid hs
  have HPOW := Lib.hid hpow
  have HW := Lib.hid hw
  have HU := Lib.hid hu
  have HU0 := Lib.hid hu0
  have HU1 := Lib.hid hu1
  have HN := Lib.hid (And.intro hn1 hn2)
  clear hs hpow hw hu hu0 hu1 hn1 hn2
  go_enter Tryz.func197, Tryz.ntmps197
  go_wp2_with fail
  refine (lz64_any y (by omega) (by omega) _).mono ?_
  rintro e w' ⟨rfl, rfl⟩
  rw [HS.out]
  go_upto_region 15 with (fail)
  rw [HPOW.out, HW.out]
  have hyy := HN.out
  have hlo : 0 ≤ IntKind.u64.wrap (lo * P) ∧ IntKind.u64.wrap (lo * P) ≤ 18446744073709551615 := by rw [wrap_u64]; omega
  rw [and_low32 (y * P) (by omega) (by omega), and_low32 (IntKind.u64.wrap (lo * P)) (by omega) (by omega)]
  obtain ⟨u, EU⟩ : ∃ u, Hid (bits .or .u64 (IntKind.u64.wrap (hi * P)) (lo / 2 ^ (64 - s)) = u) := ⟨_, rfl⟩
  obtain ⟨v, EV⟩ : ∃ v, Hid (IntKind.u64.wrap (lo * P) = v) := ⟨_, rfl⟩
  obtain ⟨z, EZ⟩ : ∃ z, Hid (y * P = z) := ⟨_, rfl⟩
  rw [EU.out, EV.out, EZ.out]
  rw [EZ.out] at hyy
  rw [EV.out] at hlo
  have hu0 : 0 ≤ u := by have := HU0.out; rw [EU.out] at this; exact this
  have hu1 : u < z := by have := HU1.out; rw [EU.out, EZ.out] at this; exact this
  have HMAIN : Hid (u * 18446744073709551616 + v = (hi * 18446744073709551616 + lo) * P) := by have := HU.out; rw [EU.out, EV.out] at this; exact this
  clear HU HU0 HU1 HN
  obtain ⟨yn1, EY1⟩ : ∃ a, Hid (z / 4294967296 = a) := ⟨_, rfl⟩
  obtain ⟨yn0, EY0⟩ : ∃ a, Hid (z % 4294967296 = a) := ⟨_, rfl⟩
  obtain ⟨un1, EN1⟩ : ∃ a, Hid (v / 4294967296 = a) := ⟨_, rfl⟩
  obtain ⟨un0, EN0⟩ : ∃ a, Hid (v % 4294967296 = a) := ⟨_, rfl⟩
  have HN1 : Hid (Nrm u yn1 yn0 un1) := by have := EY1.out; have := EY0.out; have := EN1.out; unfold Hid Nrm; omega
  rw [EY1.out, EY0.out, EN1.out, EN0.out]
  have b1 : 2147483648 ≤ yn1 := HN1.out.1
  have b2 : yn1 ≤ 4294967295 := HN1.out.2.1
  have b3 : 0 ≤ yn0 := HN1.out.2.2.1
  have b4 : yn0 ≤ 4294967295 := HN1.out.2.2.2.1
  have b5 : 0 ≤ un1 := HN1.out.2.2.2.2.1
  have b6 : un1 ≤ 4294967295 := HN1.out.2.2.2.2.2.1
  have b7 : 0 ≤ un0 ∧ un0 ≤ 4294967295 := by have := EN0.out; omega
  obtain ⟨st, sr, sp0, sp1⟩ := Est.start HN1.out
  obtain ⟨q, EQ⟩ : ∃ a, Hid (u / yn1 = a) := ⟨_, rfl⟩
  rw [EQ.out] at st sr sp0 sp1
  have sq0 : 0 ≤ q := st.2.2.2.2
  have sq1 : q ≤ 4294967297 := st.2.2.1
  go_upto_region 16 with (fail)
  rw [EQ.out]
  go_upto_block 0 with (fail)
  have HD1 : Hid (0 ≤ dig u yn1 yn0 un1 ∧ dig u yn1 yn0 un1 ≤ 4294967295) := dig_lt HN1.out
  go_cut [15, 16] from 67 to 85 (fun d _ wx => d = .int .u64 (dig u yn1 yn0 un1) ∧ wx = w)
  case first =>
    go_wp2_with fail
    have hst := Lib.hid st
    clear st hu0 hu1 hyy hlo
    go_loop [15, 16] (fun a b => ∃ q r : Int, a = .int .u64 q ∧ b = .int .u64 r ∧ 0 ≤ q ∧ q ≤ 4294967297 ∧ 0 ≤ r ∧ r ≤ 4294967295 ∧ Est u yn1 yn0 un1 q r) (fun a _ => (intOf a).toNat)
    case atStart => exact ⟨_, _, rfl, rfl, sq0, sq1, hst.out.2.2.2.1, sr, hst.out⟩
    case round =>
      clear sr sp0 sp1 sq0 sq1 EQ hst
      obtain ⟨q, r, rfl, rfl, hq0, hq1, hr0, hr1, he⟩ := hrel
      by_cases hbig : 4294967296 ≤ q
      · have hx : Hid (Est u yn1 yn0 un1 (q - 1) (r + yn1)) := he.over HN1.out hbig
        by_cases hlim : 4294967296 ≤ r + yn1
        · have hfin : Hid (q - 1 = dig u yn1 yn0 un1) := hx.out.left HN1.out hlim (by omega)
          clear he
          go_wp2_with fail
          go_meet
          exact ⟨by rw [hfin.out], rfl⟩
        · go_wp2_with fail
          go_round
          case rel => exact ⟨_, _, rfl, rfl, by omega, by omega, by omega, by omega, hx.out⟩
          case measure => simp [intOf]; omega
      · have hp := prod_lt hq0 (by omega) b3 b4
        obtain ⟨hp0, hp1⟩ := hp
        by_cases hgt : 4294967296 * r + un1 < q * yn0
        · obtain ⟨hx1, hx2⟩ := he.more HN1.out hgt
          have hx := Lib.hid hx1
          clear hx1
          by_cases hlim : 4294967296 ≤ r + yn1
          · have hfin : Hid (q - 1 = dig u yn1 yn0 un1) := hx.out.left HN1.out hlim (by omega)
            clear he
            go_wp2_with fail
            go_meet
            exact ⟨by rw [hfin.out], rfl⟩
          · go_wp2_with fail
            go_round
            case rel => exact ⟨_, _, rfl, rfl, by omega, by omega, by omega, by omega, hx.out⟩
            case measure => simp [intOf]; omega
        · have hfin : Hid (q = dig u yn1 yn0 un1) := he.done HN1.out (by omega)
          clear he
          go_wp2_with fail
          go_meet
          exact ⟨by rw [hfin.out], rfl⟩
  case rest =>
    obtain ⟨rfl, rfl⟩ := hcut
    clear st sr sp0 sp1 sq0 sq1 EQ
    have HZ : Hid (yn1 * 4294967296 + yn0 = z) := by have := EY1.out; have := EY0.out; unfold Hid; omega
    have HR : Hid _ := rst_wrap HN1.out HZ.out hyy.2
    have HN2 : Hid (Nrm (rst u yn1 yn0 un1) yn1 yn0 un0) := nrm_next HN1.out b7
    obtain ⟨hd0, hd1⟩ := HD1.out
    have HFIN : Hid (dig u yn1 yn0 un1 * 4294967296 + dig (rst u yn1 yn0 un1) yn1 yn0 un0 = quo128 hi lo y) := by
      have := digits_two HN1.out HN2.out
      rw [quo_shift hP EZ.out HMAIN.out EY1.out EY0.out EN1.out EN0.out] at this
      exact this
    obtain ⟨d, ED⟩ : ∃ d, d = dig u yn1 yn0 un1 := ⟨_, rfl⟩
    have HE : Hid (rst u yn1 yn0 un1 = rst u yn1 yn0 un1) := rfl
    rw [← ED] at HR HFIN hd0 hd1 ⊢
    have ED' := Lib.hid ED
    clear ED
    go_upto_region 22 with (fail)
    rw [HR.out]
    obtain ⟨x, EX⟩ : ∃ x, rst u yn1 yn0 un1 = x := ⟨_, rfl⟩
    rw [EX] at HN2 HFIN ⊢
    clear EX HE HR
    have hx0 : 0 ≤ x := HN2.out.2.2.2.2.2.2.1
    have hx1 : x < z := by have := HN2.out.2.2.2.2.2.2.2; have := HZ.out; omega
    have b8 : un0 ≤ 4294967295 := b7.2
    have b9 : 0 ≤ un0 := b7.1
    obtain ⟨st, sr, sp0, sp1⟩ := Est.start HN2.out
    obtain ⟨q2, EQ⟩ : ∃ a, Hid (x / yn1 = a) := ⟨_, rfl⟩
    rw [EQ.out] at st sr sp0 sp1
    have sq0 : 0 ≤ q2 := st.2.2.2.2
    have sq1 : q2 ≤ 4294967297 := st.2.2.1
    go_upto_region 23 with (fail)
    rw [EQ.out]
    go_upto_block 2 with (fail)
    have HD2 : Hid (0 ≤ dig x yn1 yn0 un0 ∧ dig x yn1 yn0 un0 ≤ 4294967295) := dig_lt HN2.out
    go_cut [18, 16] from 102 to 120 (fun d _ wx => d = .int .u64 (dig x yn1 yn0 un0) ∧ wx = wc)
    case first =>
      go_wp2_with fail
      have hst := Lib.hid st
      clear st hu0 hu1 hyy hlo
      go_loop [18, 16] (fun a b => ∃ q r : Int, a = .int .u64 q ∧ b = .int .u64 r ∧ 0 ≤ q ∧ q ≤ 4294967297 ∧ 0 ≤ r ∧ r ≤ 4294967295 ∧ Est x yn1 yn0 un0 q r) (fun a _ => (intOf a).toNat)
      case atStart => exact ⟨_, _, rfl, rfl, sq0, sq1, hst.out.2.2.2.1, sr, hst.out⟩
      case round =>
        clear sr sp0 sp1 sq0 sq1 EQ hst
        obtain ⟨q, r, rfl, rfl, hq0, hq1, hr0, hr1, he⟩ := hrel
        by_cases hbig : 4294967296 ≤ q
        · have hx : Hid (Est x yn1 yn0 un0 (q - 1) (r + yn1)) := he.over HN2.out hbig
          by_cases hlim : 4294967296 ≤ r + yn1
          · have hfin : Hid (q - 1 = dig x yn1 yn0 un0) := hx.out.left HN2.out hlim (by omega)
            clear he
            go_wp2_with fail
            go_meet
            exact ⟨by rw [hfin.out], rfl⟩
          · go_wp2_with fail
            go_round
            case rel => exact ⟨_, _, rfl, rfl, by omega, by omega, by omega, by omega, hx.out⟩
            case measure => simp [intOf]; omega
        · have hp := prod_lt hq0 (by omega) b3 b4
          obtain ⟨hp0, hp1⟩ := hp
          by_cases hgt : 4294967296 * r + un0 < q * yn0
          · obtain ⟨hx1, hx2⟩ := he.more HN2.out hgt
            have hx := Lib.hid hx1
            clear hx1
            by_cases hlim : 4294967296 ≤ r + yn1
            · have hfin : Hid (q - 1 = dig x yn1 yn0 un0) := hx.out.left HN2.out hlim (by omega)
              clear he
              go_wp2_with fail
              go_meet
              exact ⟨by rw [hfin.out], rfl⟩
            · go_wp2_with fail
              go_round
              case rel => exact ⟨_, _, rfl, rfl, by omega, by omega, by omega, by omega, hx.out⟩
              case measure => simp [intOf]; omega
          · have hfin : Hid (q = dig x yn1 yn0 un0) := he.done HN2.out (by omega)
            clear he
            go_wp2_with fail
            go_meet
            exact ⟨by rw [hfin.out], rfl⟩
    case rest =>
      rename_i wc2
      obtain ⟨rfl, rfl⟩ := hcut
      clear st sr sp0 sp1 sq0 sq1 EQ
      obtain ⟨d2, ED2⟩ : ∃ d2, d2 = dig x yn1 yn0 un0 := ⟨_, rfl⟩
      rw [← ED2] at HD2 HFIN ⊢
      have ED2' := Lib.hid ED2
      clear ED2
      obtain ⟨hd20, hd21⟩ := HD2.out
      go_wp2_with fail
      go_ret2
      exact ⟨_, retII HFIN.out rfl, rfl⟩

set_option maxHeartbeats 400000 in
theorem div64_low (lo y : Int) (l0 : 0 ≤ lo) (_l1 : lo ≤ 18446744073709551615) (y0 : 1 ≤ y) (_y1 : y ≤ 18446744073709551615) (w : World) :
    Calls Tryz.prog 197 #[.int .u64 0, .int .u64 lo, .int .u64 y] w fun e w' => ∃ r, e = .returned (.tuple #[.int .u64 (quo128 0 lo y), .int .u64 r]) ∧ ∃ n, w' = w.drewN n := by
  have h1 : ¬ y = 0 := by omega
  have e : Hid (lo / y = quo128 0 lo y) := by unfold quo128 Hid; simp
  have d0 : 0 ≤ lo / y := Int.ediv_nonneg l0 (by omega)
  have d1 : lo / y ≤ lo := Int.ediv_le_self _ l0
  go_enter Tryz.func197, Tryz.ntmps197
  go_wp2_with fail
  go_quiet (fail)
  go_wp2
  go_ret2
  exact ⟨_, retII e.out rfl, _, rfl⟩

theorem div64_any (hi lo y : Int) (h0 : 0 ≤ hi) (l0 : 0 ≤ lo) (l1 : lo ≤ 18446744073709551615) (y1 : y ≤ 18446744073709551615) (hy : hi < y) (w : World) :
    Calls Tryz.prog 197 #[.int .u64 hi, .int .u64 lo, .int .u64 y] w fun e w' => ∃ r, e = .returned (.tuple #[.int .u64 (quo128 hi lo y), .int .u64 r]) ∧ ∃ n, w' = w.drewN n := by
  by_cases h : hi = 0
  · subst h
    exact div64_low lo y l0 l1 (by omega) y1 w
  · refine (div64_big hi lo y (by omega) l0 l1 y1 hy w).mono ?_
    rintro e w' ⟨r, he, hw⟩
    exact ⟨r, he, 0, hw.symm⟩

theorem ratio_hi {hi lo d n : Int} (x : IsW hi lo n) (hs : n + d / 2 < 340282366920938463463374607431768211456) (hd : 1 ≤ d) :
    IntKind.u64.wrap (hi + hi64 (lo + d / 2)) = (n + d / 2) / 18446744073709551616 ∧ lo64 (lo + d / 2) = (n + d / 2) % 18446744073709551616 := by
  unfold IsW InU at x
  unfold hi64 lo64
  rw [wrap_u64]
  omega
theorem quo_big {m d : Int} (hd : 1 ≤ d) (h : d ≤ m / 18446744073709551616) : 18446744073709551616 ≤ m / d := by
  apply Int.le_ediv_of_mul_le (by omega)
  omega
theorem quo_low {m d : Int} (hd : 1 ≤ d) (hm : 0 ≤ m) (h : m / 18446744073709551616 < d) : 0 ≤ m / d ∧ m / d ≤ 18446744073709551615 := by
  constructor
  · exact Int.ediv_nonneg hm (by omega)
  · apply Int.le_of_lt_add_one
    apply Int.ediv_lt_of_lt_mul (by omega)
    omega
set_option maxHeartbeats 800000 in
theorem ratio_any (hi lo d n : Int) (neg : Bool) (x : IsW hi lo n) (hd : 1 ≤ d) (hd1 : d ≤ 18446744073709551615) (hs : n + d / 2 < 340282366920938463463374607431768211456) (w : World) :
    Calls Tryz.prog 153 #[.int .u64 hi, .int .u64 lo, .int .u64 d, .bool neg] w fun e w' =>
      e = .returned (.tuple #[.int .i64 (resV (sg ((n + d / 2) / d) neg)), .bool (resB (sg ((n + d / 2) / d) neg))]) ∧ ∃ k, w' = w.drewN k := by
  have hx := x.2.1
  have hh := x.1
  unfold InU at hx hh
  obtain ⟨hx0, hx1⟩ := hx
  obtain ⟨hh0, hh1⟩ := hh
  have hn := x.bd
  have R := Lib.hid (ratio_hi x hs hd)
  have hrun := fun (w : World) => add64_run lo (d / 2) hx0 (by omega) w
  obtain ⟨m, HM⟩ : ∃ m, Hid (n + d / 2 = m) := ⟨_, rfl⟩
  have hm0 : 0 ≤ m := by have := HM.out; omega
  rw [HM.out]
  have HX := Lib.hid x
  have HS := Lib.hid hs
  clear x hs hn
  go_enter Tryz.func153, Tryz.ntmps153
  by_cases hbig : d ≤ m / 18446744073709551616
  · have hq := quo_big hd hbig
    rw [resV_f (z := sg (m / d) neg) (by cases neg <;> simp [sg] <;> omega), resB_f (z := sg (m / d) neg) (by cases neg <;> simp [sg] <;> omega)]
    have hq' := Lib.hid hq
    clear hq
    go_upto_region 4 with (fail)
    rw [R.out.1, HM.out]
    go_wp2_with fail
    go_ret2
    exact ⟨rfl, 0, rfl⟩
  · have hq := quo_low hd hm0 (by omega)
    obtain ⟨q, HQ⟩ : ∃ q, Hid (m / d = q) := ⟨_, rfl⟩
    rw [HQ.out] at hq ⊢
    obtain ⟨hq0, hq1⟩ := hq
    go_upto_region 4 with (fail)
    rw [R.out.1, R.out.2, HM.out]
    have g0 : 0 ≤ m / 18446744073709551616 := Int.ediv_nonneg hm0 (by omega)
    go_wp2_with fail
    refine (div64_any _ _ _ g0 (by omega) (by omega) hd1 (by omega) _).mono ?_
    rintro e w1 ⟨r, rfl, k, rfl⟩
    have e1 : quo128 (m / 18446744073709551616) (m % 18446744073709551616) d = q := by
      rw [← HQ.out]; unfold quo128; congr 1; omega
    rw [e1]
    go_wp2_with fail
    refine (dsigned_any _ hq0 hq1 neg _).mono ?_
    rintro e w2 ⟨rfl, rfl⟩
    go_wp2_with fail
    go_ret2
    exact ⟨rfl, k, rfl⟩
end Go.Proofs.YtfjefanhkbcfgaaGreatDoor
/- Contracts of dec.Mul and dec.Quo. -/
namespace Go.Proofs.YtfjefanhkbcfgaaGreatDoor
open Go.RowKit

/-- The product of two numbers, rounded, and the quotient. -/
def mulZ (a b : Int) : Int := sg ((sizeOf' a * sizeOf' b + 5000) / 10000) (decide (a < 0) != decide (b < 0))
def quoZ (a b : Int) : Int := sg ((sizeOf' a * 10000 + sizeOf' b / 2) / sizeOf' b) (decide (a < 0) != decide (b < 0))
theorem isW_split {n : Int} (h0 : 0 ≤ n) (h1 : n < 340282366920938463463374607431768211456) : IsW (hi64 n) (lo64 n) n := by
  unfold IsW InU hi64 lo64; omega
theorem size_mul_bd {a b : Int} (ha : InI a) (hb : InI b) : 0 ≤ sizeOf' a * sizeOf' b ∧ sizeOf' a * sizeOf' b ≤ 85070591730234615865843651857942052864 := by
  have h1 := size_bd' ha
  have h2 := size_bd' hb
  constructor
  · exact Int.mul_nonneg h1.1 h2.1
  · calc sizeOf' a * sizeOf' b ≤ 9223372036854775808 * sizeOf' b := Int.mul_le_mul_of_nonneg_right h1.2 h2.1
      _ ≤ 9223372036854775808 * 9223372036854775808 := Int.mul_le_mul_of_nonneg_left h2.2 (by omega)
set_option maxHeartbeats 400000 in
theorem mul_any (a b : Int) (ha : InI a) (hb : InI b) (w : World) :
    Calls Tryz.prog 159 #[.int .i64 a, .int .i64 b] w fun e w' => e = .returned (.tuple #[.int .i64 (resV (mulZ a b)), .bool (resB (mulZ a b))]) ∧ ∃ k, w' = w.drewN k := by
  have HA := Lib.hid ha
  have HB := Lib.hid hb
  have sa := Lib.hid (size_bd' ha)
  have sb := Lib.hid (size_bd' hb)
  have sm := Lib.hid (size_mul_bd ha hb)
  clear ha hb
  go_enter Tryz.func159, Tryz.ntmps159
  go_wp2_with fail
  refine (dsize_any a HA.out _).mono ?_
  rintro e w' ⟨rfl, rfl⟩
  go_wp2_with fail
  refine (dsize_any b HB.out _).mono ?_
  rintro e w' ⟨rfl, rfl⟩
  go_wp2_with fail
  refine (mul64_any _ _ sa.out.1 (by have := sa.out; omega) sb.out.1 (by have := sb.out; omega) _).mono ?_
  rintro e w' ⟨rfl, rfl⟩
  go_wp2_with fail
  refine (ratio_any _ _ 10000 (sizeOf' a * sizeOf' b) _ (isW_split sm.out.1 (by have := sm.out; omega)) (by omega) (by omega) (by have := sm.out; omega) _).mono ?_
  rintro e w' ⟨rfl, k, rfl⟩
  go_wp2_with fail
  go_ret2
  exact ⟨rfl, k, rfl⟩
set_option maxHeartbeats 400000 in
theorem quo_any (a b : Int) (ha : InI a) (hb : InI b) (hb0 : ¬ b = 0) (w : World) :
    Calls Tryz.prog 92 #[.int .i64 a, .int .i64 b] w fun e w' => e = .returned (.tuple #[.int .i64 (resV (quoZ a b)), .bool (resB (quoZ a b))]) ∧ ∃ k, w' = w.drewN k := by
  have HA := Lib.hid ha
  have HB := Lib.hid hb
  have sa := Lib.hid (size_bd' ha)
  have sb := Lib.hid (size_bd' hb)
  have sb1 : Hid (1 ≤ sizeOf' b) := by unfold Hid sizeOf'; split <;> omega
  clear ha hb
  go_enter Tryz.func92, Tryz.ntmps92
  go_wp2_with fail
  refine (dsize_any a HA.out _).mono ?_
  rintro e w' ⟨rfl, rfl⟩
  go_wp2_with fail
  refine (mul64_any _ _ sa.out.1 (by have := sa.out; omega) (by omega) (by omega) _).mono ?_
  rintro e w' ⟨rfl, rfl⟩
  go_wp2_with fail
  refine (dsize_any b HB.out _).mono ?_
  rintro e w' ⟨rfl, rfl⟩
  go_wp2_with fail
  refine (ratio_any _ _ (sizeOf' b) (sizeOf' a * 10000) _ (isW_split (by have := sa.out; omega) (by have := sa.out; omega)) sb1.out (by have := sb.out; omega) (by have := sa.out; have := sb.out; omega) _).mono ?_
  rintro e w' ⟨rfl, k, rfl⟩
  go_wp2_with fail
  go_ret2
  exact ⟨rfl, k, rfl⟩
set_option maxHeartbeats 400000 in
theorem quo_zero (a : Int) (w : World) :
    Calls Tryz.prog 92 #[.int .i64 a, .int .i64 0] w fun e w' => e = .returned (.tuple #[.int .i64 0, .bool false]) ∧ w = w' := by
  go_enter Tryz.func92, Tryz.ntmps92
  go_wp2_with fail
  go_ret2
  exact ⟨rfl, rfl⟩
end Go.Proofs.YtfjefanhkbcfgaaGreatDoor
/- Contracts of Sqrt, of dec and of its specification: the greatest number whose square is not greater. -/
namespace Go.Proofs.YtfjefanhkbcfgaaGreatDoor
open Go.RowKit

/-- r is the root of S, rounded down. -/
def IsRoot (S r : Int) : Prop := 0 ≤ r ∧ r ≤ 549755813887 ∧ r * r ≤ S ∧ S < (r + 1) * (r + 1)
theorem sq_le {a b : Int} (h0 : 0 ≤ a) (h : a ≤ b) : a * a ≤ b * b := Int.mul_le_mul h h h0 (by omega)
theorem IsRoot.unique {S r t : Int} (x : IsRoot S r) (y : IsRoot S t) : r = t := by
  obtain ⟨a, _, b, c⟩ := x
  obtain ⟨d, _, e, f⟩ := y
  rcases Int.lt_trichotomy r t with h | h | h
  · have := sq_le (a := r + 1) (b := t) (by omega) (by omega); omega
  · exact h
  · have := sq_le (a := t + 1) (b := r) (by omega) (by omega); omega
/-- The state of the search of a root, bit by bit. -/
def SqI (S ρ : Int) (k : Nat) : Prop := ∃ c : Nat, ρ = ((c * 2 ^ (39 - k) : Nat) : Int) ∧ c < 2 ^ k ∧ ρ * ρ ≤ S ∧ S < (ρ + ((2 ^ (39 - k) : Nat) : Int)) * (ρ + ((2 ^ (39 - k) : Nat) : Int))
theorem SqI.start {S : Int} (h0 : 0 ≤ S) (h : S < 302231454903657293676544) : SqI S 0 0 := ⟨0, by simp, by simp, by simpa using h0, by simpa using h⟩
theorem SqI.bd {S ρ : Int} {k : Nat} (hk : k ≤ 39) (x : SqI S ρ k) : 0 ≤ ρ ∧ ρ ≤ 549755813887 := by
  obtain ⟨c, rfl, hc, _⟩ := x
  have h1 : c * 2 ^ (39 - k) < 2 ^ k * 2 ^ (39 - k) := Nat.mul_lt_mul_of_pos_right hc (Nat.two_pow_pos _)
  rw [← Nat.pow_add, show k + (39 - k) = 39 by omega] at h1
  omega
theorem SqI.or {S ρ : Int} {k : Nat} (hk : k < 39) (x : SqI S ρ k) :
    bits .or .u64 ρ (IntKind.u64.wrap (2 ^ (38 - k))) = ρ + ((2 ^ (38 - k) : Nat) : Int) ∧ 0 ≤ ρ + ((2 ^ (38 - k) : Nat) : Int) ∧ ρ + ((2 ^ (38 - k) : Nat) : Int) ≤ 549755813887 := by
  have hb := x.bd (by omega)
  obtain ⟨c, rfl, hc, _⟩ := x
  have hp : 2 ^ (39 - k) = 2 * 2 ^ (38 - k) := by rw [show 39 - k = (38 - k) + 1 by omega, Nat.pow_succ]; omega
  have hpos : 0 < 2 ^ (38 - k) := Nat.two_pow_pos _
  have hle : 2 ^ (38 - k) ≤ 2 ^ 38 := Nat.pow_le_pow_right (by omega) (by omega)
  have h1 : (c + 1) * 2 ^ (39 - k) ≤ 2 ^ k * 2 ^ (39 - k) := Nat.mul_le_mul_right _ hc
  rw [← Nat.pow_add, show k + (39 - k) = 39 by omega, Nat.add_mul] at h1
  have e0 : (2 : Int) ^ (38 - k) = ((2 ^ (38 - k) : Nat) : Int) := by simp
  refine ⟨?_, by omega, by omega⟩
  rw [e0, wrap_u64, show ((2 ^ (38 - k) : Nat) : Int) % 18446744073709551616 = ((2 ^ (38 - k) : Nat) : Int) by omega, u64_or_nat _ _ (by omega) (by omega),
    nat_join (39 - k) _ _ (by simp) (by omega)]
  omega
theorem SqI.yes {S ρ : Int} {k : Nat} (hk : k < 39) (x : SqI S ρ k) (h : (ρ + ((2 ^ (38 - k) : Nat) : Int)) * (ρ + ((2 ^ (38 - k) : Nat) : Int)) ≤ S) : SqI S (ρ + ((2 ^ (38 - k) : Nat) : Int)) (k + 1) := by
  obtain ⟨c, rfl, hc, h1, h2⟩ := x
  have hp : 2 ^ (39 - k) = 2 ^ (38 - k) + 2 ^ (38 - k) := by rw [show 39 - k = (38 - k) + 1 by omega, Nat.pow_succ]; omega
  have e : 39 - (k + 1) = 38 - k := by omega
  refine ⟨2 * c + 1, ?_, by rw [Nat.pow_succ]; omega, h, ?_⟩
  · rw [e, hp, Nat.add_mul, Nat.mul_assoc, Nat.mul_add]; omega
  · rw [e]
    have e2 : ((c * 2 ^ (39 - k) : Nat) : Int) + ((2 ^ (38 - k) : Nat) : Int) + ((2 ^ (38 - k) : Nat) : Int) = ((c * 2 ^ (39 - k) : Nat) : Int) + ((2 ^ (39 - k) : Nat) : Int) := by rw [Int.add_assoc, ← Int.natCast_add, ← hp]
    rw [e2]; exact h2
theorem SqI.no {S ρ : Int} {k : Nat} (hk : k < 39) (x : SqI S ρ k) (h : S < (ρ + ((2 ^ (38 - k) : Nat) : Int)) * (ρ + ((2 ^ (38 - k) : Nat) : Int))) : SqI S ρ (k + 1) := by
  obtain ⟨c, rfl, hc, h1, h2⟩ := x
  have hp : 2 ^ (39 - k) = 2 ^ (38 - k) + 2 ^ (38 - k) := by rw [show 39 - k = (38 - k) + 1 by omega, Nat.pow_succ]; omega
  have e : 39 - (k + 1) = 38 - k := by omega
  refine ⟨2 * c, ?_, by rw [Nat.pow_succ]; omega, h1, ?_⟩
  · rw [e, hp, Nat.mul_assoc, Nat.mul_add]; omega
  · rw [e]; exact h
theorem SqI.stop {S ρ : Int} (x : SqI S ρ 39) : IsRoot S ρ := by
  have hb := x.bd (Nat.le_refl _)
  obtain ⟨c, rfl, hc, h1, h2⟩ := x
  exact ⟨hb.1, hb.2, h1, h2⟩
theorem le128 {m S : Int} : (m ≤ S) ↔ (hi64 m < hi64 S ∨ hi64 m = hi64 S ∧ lo64 m ≤ lo64 S) := by unfold hi64 lo64; omega

set_option maxRecDepth 100000 in
set_option maxHeartbeats 1600000 in
theorem sqrt_any (a : Int) (h0 : 0 ≤ a) (h1 : a ≤ 9223372036854775807) (w : World) :
    Calls Tryz.prog 78 #[.int .i64 a] w fun e w' => ∃ r : Int, e = .returned (.tuple #[.int .i64 r, .bool true]) ∧ IsRoot (a * 10000) r ∧ w = w' := by
  have hst : SqI (a * 10000) 0 0 := SqI.start (by omega) (by omega)
  go_enter Tryz.func78, Tryz.ntmps78
  go_wp2_with fail
  refine (mul64_any _ _ h0 (by omega) (by omega) (by omega) _).mono ?_
  rintro e w' ⟨rfl, rfl⟩
  obtain ⟨S, HS⟩ : ∃ S, Hid (a * 10000 = S) := ⟨_, rfl⟩
  rw [HS.out] at hst ⊢
  obtain ⟨sh, HSH⟩ : ∃ x, Hid (hi64 S = x) := ⟨_, rfl⟩
  obtain ⟨sl, HSL⟩ : ∃ x, Hid (lo64 S = x) := ⟨_, rfl⟩
  rw [HSH.out, HSL.out]
  have HST := Lib.hid hst
  clear hst
  go_wp2_with fail
  go_loop [6, 19] (fun s i => ∃ (k : Nat) (ρ : Int), k ≤ 39 ∧ i = .int .i64 k ∧ s = .int .u64 ρ ∧ SqI S ρ k) (fun _ i => 39 - (intOf i).toNat)
  case atStart => exact ⟨0, 0, by omega, rfl, rfl, HST.out⟩
  case round =>
    clear HST
    obtain ⟨k, ρ, hk, rfl, rfl, hI⟩ := hrel
    obtain ⟨hr0, hr1⟩ := hI.bd hk
    by_cases hlt : k < 39
    · obtain ⟨ho, ho0, ho1⟩ := hI.or hlt
      have hyes := Lib.hid (hI.yes hlt)
      have hno := Lib.hid (hI.no hlt)
      clear hI
      obtain ⟨n, HN⟩ : ∃ n, Hid (ρ + ((2 ^ (38 - k) : Nat) : Int) = n) := ⟨_, rfl⟩
      rw [HN.out] at ho ho0 ho1 hyes hno
      have HO := Lib.hid ho
      clear ho
      go_wp2_with fail
      rw [HO.out]
      refine (mul64_any _ _ ho0 (by omega) ho0 (by omega) _).mono ?_
      rintro e w' ⟨rfl, rfl⟩
      have hle := Lib.hid (le128 (m := n * n) (S := S))
      rw [HSH.out, HSL.out] at hle
      obtain ⟨nh, HNH⟩ : ∃ x, Hid (hi64 (n * n) = x) := ⟨_, rfl⟩
      obtain ⟨nl, HNL⟩ : ∃ x, Hid (lo64 (n * n) = x) := ⟨_, rfl⟩
      rw [HNH.out, HNL.out] at hle ⊢
      rcases Int.lt_trichotomy nh sh with hc | hc | hc
      · have hx : Hid (SqI S n (k + 1)) := hyes.out (hle.out.2 (by omega))
        clear hle hyes hno
        go_wp2_with fail
        go_round
        case rel => exact ⟨k + 1, n, by omega, by go_num, rfl, hx.out⟩
        case measure => simp [intOf]; omega
      · have hb : (nh == sh) = true := by simp [hc]
        have hnl : ¬ nh < sh := by omega
        by_cases hl : nl ≤ sl
        · have hx : Hid (SqI S n (k + 1)) := hyes.out (hle.out.2 (by omega))
          clear hle hyes hno hc
          go_wp2_with fail
          go_round
          case rel => exact ⟨k + 1, n, by omega, by go_num, rfl, hx.out⟩
          case measure => simp [intOf]; omega
        · have hx : Hid (SqI S ρ (k + 1)) := hno.out (by
            rcases Int.lt_or_le S (n * n) with h | h
            · exact h
            · have := hle.out.1 h; omega)
          clear hle hyes hno hc
          go_wp2_with fail
          go_round
          case rel => exact ⟨k + 1, ρ, by omega, by go_num, rfl, hx.out⟩
          case measure => simp [intOf]; omega
      · have hb : (nh == sh) = false := by rw [beq_eq_false_iff_ne]; omega
        have hnl : ¬ nh < sh := by omega
        have hx : Hid (SqI S ρ (k + 1)) := hno.out (by
            rcases Int.lt_or_le S (n * n) with h | h
            · exact h
            · have := hle.out.1 h; omega)
        clear hle hyes hno
        go_wp2_with fail
        go_round
        case rel => exact ⟨k + 1, ρ, by omega, by go_num, rfl, hx.out⟩
        case measure => simp [intOf]; omega
    · have hfin : Hid (IsRoot S ρ) := by
        have hk' : k = 39 := by omega
        rw [hk'] at hI
        exact hI.stop
      clear hI
      go_wp2_with fail
      go_ret2
      exact ⟨ρ, rfl, by rw [HS.out]; exact hfin.out, rfl⟩
set_option maxHeartbeats 400000 in
theorem sqrt_neg (a : Int) (h0 : a < 0) (w : World) :
    Calls Tryz.prog 78 #[.int .i64 a] w fun e w' => e = .returned (.tuple #[.int .i64 0, .bool false]) ∧ w = w' := by
  go_enter Tryz.func78, Tryz.ntmps78
  go_wp2_with fail
  go_ret2
  exact ⟨rfl, rfl⟩
end Go.Proofs.YtfjefanhkbcfgaaGreatDoor
/- Contracts of Power, of dec and of its specification. -/
namespace Go.Proofs.YtfjefanhkbcfgaaGreatDoor
open Go.RowKit

theorem resV_InI (z : Int) : InI (resV z) := by unfold resV InI; split <;> omega
/-- A repeated product: none if one of the products is out of range. -/
def powZ (a : Int) : Nat → Option Int
  | 0 => some 10000
  | k + 1 => (powZ a k).bind fun p => if resB (mulZ p a) = true then some (mulZ p a) else none
def optV (o : Option Int) : Int := o.getD 0
def optB (o : Option Int) : Bool := o.isSome
theorem resV_of {z : Int} (h : resB z = true) : resV z = z := by unfold resB at h; unfold resV; rw [if_pos (of_decide_eq_true h)]
theorem resV_no {z : Int} (h : resB z = false) : resV z = 0 := by unfold resB at h; unfold resV; rw [if_neg (of_decide_eq_false h)]
theorem powZ_InI {a : Int} {k : Nat} {p : Int} (h : powZ a k = some p) : InI p := by
  cases k with
  | zero => simp [powZ] at h; subst h; unfold InI; omega
  | succ k =>
    unfold powZ at h
    cases hk : powZ a k with
    | none => rw [hk] at h; simp at h
    | some q =>
      rw [hk] at h
      simp at h
      rw [← h.2, ← resV_of h.1]
      exact resV_InI _
theorem powZ_yes {a : Int} {k : Nat} {p : Int} (h : powZ a k = some p) (hb : resB (mulZ p a) = true) : powZ a (k + 1) = some (mulZ p a) := by
  unfold powZ; rw [h]; simp [hb]
theorem powZ_no {a : Int} {k : Nat} {p : Int} (h : powZ a k = some p) (hb : resB (mulZ p a) = false) : powZ a (k + 1) = none := by
  unfold powZ; rw [h]; simp [hb]
theorem powZ_none {a : Int} {k m : Nat} (h : powZ a k = none) (hm : k ≤ m) : powZ a m = none := by
  induction hm with
  | refl => exact h
  | step _ ih => unfold powZ; rw [ih]; rfl
/-- What Power returns for an exponent from 0 on. -/
def pwV (a : Int) (k : Nat) : Int := optV (powZ a k)
def pwB (a : Int) (k : Nat) : Bool := optB (powZ a k)
theorem pw_some {a : Int} {k : Nat} {p : Int} (h : powZ a k = some p) : pwV a k = p ∧ pwB a k = true := by unfold pwV pwB optV optB; rw [h]; simp
theorem pw_none {a : Int} {k : Nat} (h : powZ a k = none) : pwV a k = 0 ∧ pwB a k = false := by unfold pwV pwB optV optB; rw [h]; simp
/-- What Power returns. -/
def powV (a n : Int) : Int :=
  if n < -1000 ∨ 1000 < n then 0 else if 0 ≤ n then pwV a n.toNat else if pwB a (-n).toNat = true ∧ ¬ pwV a (-n).toNat = 0 then resV (quoZ 10000 (pwV a (-n).toNat)) else 0
def powB (a n : Int) : Bool :=
  if n < -1000 ∨ 1000 < n then false else if 0 ≤ n then pwB a n.toNat else if pwB a (-n).toNat = true ∧ ¬ pwV a (-n).toNat = 0 then resB (quoZ 10000 (pwV a (-n).toNat)) else false

set_option maxHeartbeats 800000 in
theorem power_up (a : Int) (ha : InI a) (m : Nat) (hm : m ≤ 1000) (w : World) :
    Calls Tryz.prog 145 #[.int .i64 a, .int .i64 m] w fun e w' => e = .returned (.tuple #[.int .i64 (pwV a m), .bool (pwB a m)]) ∧ ∃ k, w' = w.drewN k := by
  have HA := Lib.hid ha
  clear ha
  go_enter Tryz.func145, Tryz.ntmps145
  go_wp2_with fail
  go_loopw [8, 33] (fun s i wr => ∃ (k : Nat) (p : Int) (d : Nat), k ≤ m ∧ i = .int .i64 k ∧ s = .int .i64 p ∧ powZ a k = some p ∧ wr = w.drewN d) (fun _ i _ => m - (intOf i).toNat)
  case atStart => exact ⟨0, 10000, 0, by omega, rfl, rfl, rfl, rfl⟩
  case round =>
    obtain ⟨k, p, d, hk, rfl, rfl, hp, rfl⟩ := hrel
    have HP := Lib.hid hp
    clear hp
    have HI := Lib.hid (powZ_InI HP.out)
    by_cases hlt : k < m
    · go_wp2_with fail
      refine (mul_any p a HI.out HA.out _).mono ?_
      rintro e w1 ⟨rfl, d1, rfl⟩
      cases hb : resB (mulZ p a)
      · have h0 : Hid (pwV a m = 0 ∧ pwB a m = false) := pw_none (powZ_none (powZ_no HP.out hb) (by omega))
        have hv : resV (mulZ p a) = 0 := resV_no hb
        clear hb
        go_wp2_with fail
        go_ret2
        exact ⟨(retIB h0.out.1 h0.out.2).symm, d + d1, rfl⟩
      · have h0 : Hid (powZ a (k + 1) = some (mulZ p a)) := powZ_yes HP.out hb
        have hv := Lib.hid (resV_of hb)
        rw [hv.out]
        clear hb
        go_wp2_with fail
        go_roundw
        case rel => exact ⟨k + 1, _, d + d1, by omega, by go_num, rfl, h0.out, rfl⟩
        case measure => simp [intOf]; omega
    · have h0 : Hid (pwV a m = p ∧ pwB a m = true) := by
        have hk' : k = m := by omega
        have := HP.out
        rw [hk'] at this
        exact pw_some this
      go_wp2_with fail
      go_ret2
      exact ⟨(retIB h0.out.1 h0.out.2).symm, d, rfl⟩
set_option maxHeartbeats 800000 in
theorem power_any (a n : Int) (ha : InI a) (hn0 : -9223372036854775808 ≤ n) (w : World) :
    Calls Tryz.prog 145 #[.int .i64 a, .int .i64 n] w fun e w' => e = .returned (.tuple #[.int .i64 (powV a n), .bool (powB a n)]) ∧ ∃ k, w' = w.drewN k := by
  have HA := Lib.hid ha
  clear ha
  by_cases h1 : n < -1000
  · have e1 : powV a n = 0 := by unfold powV; rw [if_pos (Or.inl h1)]
    have e2 : powB a n = false := by unfold powB; rw [if_pos (Or.inl h1)]
    rw [e1, e2]
    clear e1 e2
    go_enter Tryz.func145, Tryz.ntmps145
    go_wp2_with fail
    go_ret2
    exact ⟨rfl, 0, rfl⟩
  · by_cases h2 : 1000 < n
    · have e1 : powV a n = 0 := by unfold powV; rw [if_pos (Or.inr h2)]
      have e2 : powB a n = false := by unfold powB; rw [if_pos (Or.inr h2)]
      rw [e1, e2]
      clear e1 e2
      go_enter Tryz.func145, Tryz.ntmps145
      go_wp2_with fail
      go_ret2
      exact ⟨rfl, 0, rfl⟩
    · by_cases h3 : 0 ≤ n
      · obtain ⟨m, rfl⟩ := Int.eq_ofNat_of_zero_le h3
        have e1 : powV a m = pwV a m := by unfold powV; rw [if_neg (by omega), if_pos h3, Int.toNat_natCast]
        have e2 : powB a m = pwB a m := by unfold powB; rw [if_neg (by omega), if_pos h3, Int.toNat_natCast]
        rw [e1, e2]
        exact power_up a HA.out m (by omega) w
      · obtain ⟨m, hm⟩ : ∃ m : Nat, (m : Int) = -n := ⟨(-n).toNat, by omega⟩
        have hm1 : m ≤ 1000 := by omega
        obtain rfl : n = -(m : Int) := by omega
        have hneg : -(m : Int) < 0 := by omega
        obtain ⟨v, HV⟩ : ∃ v, Hid (pwV a m = v) := ⟨_, rfl⟩
        cases hb : pwB a m
        · have e1 : powV a (-(m : Int)) = 0 := by unfold powV; rw [if_neg (by omega), if_neg h3, Int.neg_neg, Int.toNat_natCast, hb, if_neg (by simp)]
          have e2 : powB a (-(m : Int)) = false := by unfold powB; rw [if_neg (by omega), if_neg h3, Int.neg_neg, Int.toNat_natCast, hb, if_neg (by simp)]
          have HB := Lib.hid hb
          rw [e1, e2]
          clear e1 e2 hb hm
          go_enter Tryz.func145, Tryz.ntmps145
          go_wp2_with fail
          refine (power_up a HA.out m hm1 _).mono ?_
          rintro e w1 ⟨rfl, d, rfl⟩
          rw [HB.out]
          go_wp2_with fail
          go_ret2
          exact ⟨rfl, d, rfl⟩
        · have hvI : Hid (InI v) := by
            rw [← HV.out]
            cases hp : powZ a m with
            | none => rw [(pw_none hp).1]; unfold Hid InI; omega
            | some q => rw [(pw_some hp).1]; exact powZ_InI hp
          by_cases hv0 : v = 0
          · have e1 : powV a (-(m : Int)) = 0 := by unfold powV; rw [if_neg (by omega), if_neg h3, Int.neg_neg, Int.toNat_natCast, HV.out, if_neg (by simp [hv0])]
            have e2 : powB a (-(m : Int)) = false := by unfold powB; rw [if_neg (by omega), if_neg h3, Int.neg_neg, Int.toNat_natCast, HV.out, if_neg (by simp [hv0])]
            have HB := Lib.hid hb
            rw [e1, e2]
            subst hv0
            clear e1 e2 hb hm
            go_enter Tryz.func145, Tryz.ntmps145
            go_wp2_with fail
            refine (power_up a HA.out m hm1 _).mono ?_
            rintro e w1 ⟨rfl, d, rfl⟩
            rw [HB.out, HV.out]
            go_wp2_with fail
            refine (quo_zero _ _).mono ?_
            rintro e w1 ⟨rfl, rfl⟩
            go_wp2_with fail
            go_ret2
            exact ⟨rfl, d, rfl⟩
          · have e1 : powV a (-(m : Int)) = resV (quoZ 10000 v) := by unfold powV; rw [if_neg (by omega), if_neg h3, Int.neg_neg, Int.toNat_natCast, HV.out, if_pos ⟨hb, hv0⟩]
            have e2 : powB a (-(m : Int)) = resB (quoZ 10000 v) := by unfold powB; rw [if_neg (by omega), if_neg h3, Int.neg_neg, Int.toNat_natCast, HV.out, if_pos ⟨hb, hv0⟩]
            have HB := Lib.hid hb
            have HV0 := Lib.hid hv0
            rw [e1, e2]
            clear e1 e2 hb hm hv0
            go_enter Tryz.func145, Tryz.ntmps145
            go_wp2_with fail
            refine (power_up a HA.out m hm1 _).mono ?_
            rintro e w1 ⟨rfl, d, rfl⟩
            rw [HB.out, HV.out]
            go_wp2_with fail
            refine (quo_any 10000 v (by unfold InI; omega) hvI.out HV0.out _).mono ?_
            rintro e w1 ⟨rfl, d1, rfl⟩
            go_wp2_with fail
            go_ret2
            exact ⟨rfl, d + d1, rfl⟩
end Go.Proofs.YtfjefanhkbcfgaaGreatDoor
