/- The contract of math/bits.Div64: the quotient of a number of 128 bits, if it is less than 2^64; and of dec.ratio. -/
import Derived.Test.YtdanbabamcdebaaGreatDoorBits
import Derived.Test.YtdanbabamcdebaaGreatDoorDivMath
import Derived.Deep.CutBlock
import Derived.Deep.QuietTactic
import Derived.BigQuiet
import Derived.Deep.DeepCutAuto
namespace Go.Proofs.YtdanbabamcdebaaGreatDoor
open Go.RowKit
set_option maxRecDepth 100000 in
set_option maxHeartbeats 1600000 in
theorem div64_big (hi lo y : Int) (h0 : 1 ≤ hi) (l0 : 0 ≤ lo) (l1 : lo ≤ 18446744073709551615) (y1 : y ≤ 18446744073709551615) (hy : hi < y) (w : World) :
    Calls Tryz.prog 122 #[.int .u64 hi, .int .u64 lo, .int .u64 y] w fun e w' => ∃ r, e = .returned (.tuple #[.int .u64 (quo128 hi lo y), .int .u64 r]) ∧ w = w' := by
  obtain ⟨s, P, hs, hs63, hP, hpow, hw, hn1, hn2, hu, hu0, hu1⟩ := norm_facts h0 l0 l1 y1 hy
  have HS := Lib.hid hs
  have HPOW := Lib.hid hpow
  have HW := Lib.hid hw
  have HU := Lib.hid hu
  have HU0 := Lib.hid hu0
  have HU1 := Lib.hid hu1
  have HN := Lib.hid (And.intro hn1 hn2)
  clear hs hpow hw hu hu0 hu1 hn1 hn2
  go_enter Tryz.func122, Tryz.ntmps122
  go_wp2_with fail
  refine (lz64_any y (by omega) (by omega) _).mono ?_
  rintro e w' ⟨rfl, rfl⟩
  rw [HS.out]
  go_upto_region 15 with (fail)
  rw [HPOW.out, HW.out]
  have hyy := HN.out
  have hlo : 0 ≤ IntKind.u64.wrap (lo * P) ∧ IntKind.u64.wrap (lo * P) ≤ 18446744073709551615 := by rw [wrap_u64]; omega
  rw [and_low32 (y * P) (by omega) (by omega), and_low32 (IntKind.u64.wrap (lo * P)) (by omega) (by omega)]
  obtain ⟨u, EU⟩ : ∃ u, Hid (bits .or .u64 (IntKind.u64.wrap (hi * P)) (lo / 2 ^ (64 - s)) = u) := ⟨_, rfl⟩
  obtain ⟨v, EV⟩ : ∃ v, Hid (IntKind.u64.wrap (lo * P) = v) := ⟨_, rfl⟩
  obtain ⟨z, EZ⟩ : ∃ z, Hid (y * P = z) := ⟨_, rfl⟩
  rw [EU.out, EV.out, EZ.out]
  rw [EZ.out] at hyy
  rw [EV.out] at hlo
  have hu0 : 0 ≤ u := by have := HU0.out; rw [EU.out] at this; exact this
  have hu1 : u < z := by have := HU1.out; rw [EU.out, EZ.out] at this; exact this
  have HMAIN : Hid (u * 18446744073709551616 + v = (hi * 18446744073709551616 + lo) * P) := by have := HU.out; rw [EU.out, EV.out] at this; exact this
  clear HU HU0 HU1 HN
  obtain ⟨yn1, EY1⟩ : ∃ a, Hid (z / 4294967296 = a) := ⟨_, rfl⟩
  obtain ⟨yn0, EY0⟩ : ∃ a, Hid (z % 4294967296 = a) := ⟨_, rfl⟩
  obtain ⟨un1, EN1⟩ : ∃ a, Hid (v / 4294967296 = a) := ⟨_, rfl⟩
  obtain ⟨un0, EN0⟩ : ∃ a, Hid (v % 4294967296 = a) := ⟨_, rfl⟩
  have HN1 : Hid (Nrm u yn1 yn0 un1) := by have := EY1.out; have := EY0.out; have := EN1.out; unfold Hid Nrm; omega
  rw [EY1.out, EY0.out, EN1.out, EN0.out]
  have b1 : 2147483648 ≤ yn1 := HN1.out.1
  have b2 : yn1 ≤ 4294967295 := HN1.out.2.1
  have b3 : 0 ≤ yn0 := HN1.out.2.2.1
  have b4 : yn0 ≤ 4294967295 := HN1.out.2.2.2.1
  have b5 : 0 ≤ un1 := HN1.out.2.2.2.2.1
  have b6 : un1 ≤ 4294967295 := HN1.out.2.2.2.2.2.1
  have b7 : 0 ≤ un0 ∧ un0 ≤ 4294967295 := by have := EN0.out; omega
  obtain ⟨st, sr, sp0, sp1⟩ := Est.start HN1.out
  obtain ⟨q, EQ⟩ : ∃ a, Hid (u / yn1 = a) := ⟨_, rfl⟩
  rw [EQ.out] at st sr sp0 sp1
  have sq0 : 0 ≤ q := st.2.2.2.2
  have sq1 : q ≤ 4294967297 := st.2.2.1
  go_upto_region 16 with (fail)
  rw [EQ.out]
  go_upto_block 0 with (fail)
  have HD1 : Hid (0 ≤ dig u yn1 yn0 un1 ∧ dig u yn1 yn0 un1 ≤ 4294967295) := dig_lt HN1.out
  go_cut [15, 16] from 67 to 85 (fun d _ wx => d = .int .u64 (dig u yn1 yn0 un1) ∧ wx = w)
  case first =>
    go_wp2_with fail
    have hst := Lib.hid st
    clear st hu0 hu1 hyy hlo
    go_loop [15, 16] (fun a b => ∃ q r : Int, a = .int .u64 q ∧ b = .int .u64 r ∧ 0 ≤ q ∧ q ≤ 4294967297 ∧ 0 ≤ r ∧ r ≤ 4294967295 ∧ Est u yn1 yn0 un1 q r) (fun a _ => (intOf a).toNat)
    case atStart => exact ⟨_, _, rfl, rfl, sq0, sq1, hst.out.2.2.2.1, sr, hst.out⟩
    case round =>
      clear sr sp0 sp1 sq0 sq1 EQ hst
      obtain ⟨q, r, rfl, rfl, hq0, hq1, hr0, hr1, he⟩ := hrel
      by_cases hbig : 4294967296 ≤ q
      · have hx : Hid (Est u yn1 yn0 un1 (q - 1) (r + yn1)) := he.over HN1.out hbig
        by_cases hlim : 4294967296 ≤ r + yn1
        · have hfin : Hid (q - 1 = dig u yn1 yn0 un1) := hx.out.left HN1.out hlim (by omega)
          clear he
          go_wp2_with fail
          go_meet
          exact ⟨by rw [hfin.out], rfl⟩
        · go_wp2_with fail
          go_round
          case rel => exact ⟨_, _, rfl, rfl, by omega, by omega, by omega, by omega, hx.out⟩
          case measure => simp [intOf]; omega
      · have hp := prod_lt hq0 (by omega) b3 b4
        obtain ⟨hp0, hp1⟩ := hp
        by_cases hgt : 4294967296 * r + un1 < q * yn0
        · obtain ⟨hx1, hx2⟩ := he.more HN1.out hgt
          have hx := Lib.hid hx1
          clear hx1
          by_cases hlim : 4294967296 ≤ r + yn1
          · have hfin : Hid (q - 1 = dig u yn1 yn0 un1) := hx.out.left HN1.out hlim (by omega)
            clear he
            go_wp2_with fail
            go_meet
            exact ⟨by rw [hfin.out], rfl⟩
          · go_wp2_with fail
            go_round
            case rel => exact ⟨_, _, rfl, rfl, by omega, by omega, by omega, by omega, hx.out⟩
            case measure => simp [intOf]; omega
        · have hfin : Hid (q = dig u yn1 yn0 un1) := he.done HN1.out (by omega)
          clear he
          go_wp2_with fail
          go_meet
          exact ⟨by rw [hfin.out], rfl⟩
  case rest =>
    obtain ⟨rfl, rfl⟩ := hcut
    clear st sr sp0 sp1 sq0 sq1 EQ
    have HZ : Hid (yn1 * 4294967296 + yn0 = z) := by have := EY1.out; have := EY0.out; unfold Hid; omega
    have HR : Hid _ := rst_wrap HN1.out HZ.out hyy.2
    have HN2 : Hid (Nrm (rst u yn1 yn0 un1) yn1 yn0 un0) := nrm_next HN1.out b7
    obtain ⟨hd0, hd1⟩ := HD1.out
    have HFIN : Hid (dig u yn1 yn0 un1 * 4294967296 + dig (rst u yn1 yn0 un1) yn1 yn0 un0 = quo128 hi lo y) := by
      have := digits_two HN1.out HN2.out
      rw [quo_shift hP EZ.out HMAIN.out EY1.out EY0.out EN1.out EN0.out] at this
      exact this
    obtain ⟨d, ED⟩ : ∃ d, d = dig u yn1 yn0 un1 := ⟨_, rfl⟩
    have HE : Hid (rst u yn1 yn0 un1 = rst u yn1 yn0 un1) := rfl
    rw [← ED] at HR HFIN hd0 hd1 ⊢
    have ED' := Lib.hid ED
    clear ED
    go_upto_region 22 with (fail)
    rw [HR.out]
    obtain ⟨x, EX⟩ : ∃ x, rst u yn1 yn0 un1 = x := ⟨_, rfl⟩
    rw [EX] at HN2 HFIN ⊢
    clear EX HE HR
    have hx0 : 0 ≤ x := HN2.out.2.2.2.2.2.2.1
    have hx1 : x < z := by have := HN2.out.2.2.2.2.2.2.2; have := HZ.out; omega
    have b8 : un0 ≤ 4294967295 := b7.2
    have b9 : 0 ≤ un0 := b7.1
    obtain ⟨st, sr, sp0, sp1⟩ := Est.start HN2.out
    obtain ⟨q2, EQ⟩ : ∃ a, Hid (x / yn1 = a) := ⟨_, rfl⟩
    rw [EQ.out] at st sr sp0 sp1
    have sq0 : 0 ≤ q2 := st.2.2.2.2
    have sq1 : q2 ≤ 4294967297 := st.2.2.1
    go_upto_region 23 with (fail)
    rw [EQ.out]
    go_upto_block 2 with (fail)
    have HD2 : Hid (0 ≤ dig x yn1 yn0 un0 ∧ dig x yn1 yn0 un0 ≤ 4294967295) := dig_lt HN2.out
    go_cut [18, 16] from 102 to 120 (fun d _ wx => d = .int .u64 (dig x yn1 yn0 un0) ∧ wx = wc)
    case first =>
      go_wp2_with fail
      have hst := Lib.hid st
      clear st hu0 hu1 hyy hlo
      go_loop [18, 16] (fun a b => ∃ q r : Int, a = .int .u64 q ∧ b = .int .u64 r ∧ 0 ≤ q ∧ q ≤ 4294967297 ∧ 0 ≤ r ∧ r ≤ 4294967295 ∧ Est x yn1 yn0 un0 q r) (fun a _ => (intOf a).toNat)
      case atStart => exact ⟨_, _, rfl, rfl, sq0, sq1, hst.out.2.2.2.1, sr, hst.out⟩
      case round =>
        clear sr sp0 sp1 sq0 sq1 EQ hst
        obtain ⟨q, r, rfl, rfl, hq0, hq1, hr0, hr1, he⟩ := hrel
        by_cases hbig : 4294967296 ≤ q
        · have hx : Hid (Est x yn1 yn0 un0 (q - 1) (r + yn1)) := he.over HN2.out hbig
          by_cases hlim : 4294967296 ≤ r + yn1
          · have hfin : Hid (q - 1 = dig x yn1 yn0 un0) := hx.out.left HN2.out hlim (by omega)
            clear he
            go_wp2_with fail
            go_meet
            exact ⟨by rw [hfin.out], rfl⟩
          · go_wp2_with fail
            go_round
            case rel => exact ⟨_, _, rfl, rfl, by omega, by omega, by omega, by omega, hx.out⟩
            case measure => simp [intOf]; omega
        · have hp := prod_lt hq0 (by omega) b3 b4
          obtain ⟨hp0, hp1⟩ := hp
          by_cases hgt : 4294967296 * r + un0 < q * yn0
          · obtain ⟨hx1, hx2⟩ := he.more HN2.out hgt
            have hx := Lib.hid hx1
            clear hx1
            by_cases hlim : 4294967296 ≤ r + yn1
            · have hfin : Hid (q - 1 = dig x yn1 yn0 un0) := hx.out.left HN2.out hlim (by omega)
              clear he
              go_wp2_with fail
              go_meet
              exact ⟨by rw [hfin.out], rfl⟩
            · go_wp2_with fail
              go_round
              case rel => exact ⟨_, _, rfl, rfl, by omega, by omega, by omega, by omega, hx.out⟩
              case measure => simp [intOf]; omega
          · have hfin : Hid (q = dig x yn1 yn0 un0) := he.done HN2.out (by omega)
            clear he
            go_wp2_with fail
            go_meet
            exact ⟨by rw [hfin.out], rfl⟩
    case rest =>
      rename_i wc2
      obtain ⟨rfl, rfl⟩ := hcut
      clear st sr sp0 sp1 sq0 sq1 EQ
      obtain ⟨d2, ED2⟩ : ∃ d2, d2 = dig x yn1 yn0 un0 := ⟨_, rfl⟩
      rw [← ED2] at HD2 HFIN ⊢
      have ED2' := Lib.hid ED2
      clear ED2
      obtain ⟨hd20, hd21⟩ := HD2.out
      go_wp2_with fail
      go_ret2
      exact ⟨_, retII HFIN.out rfl, rfl⟩

set_option maxHeartbeats 400000 in
theorem div64_low (lo y : Int) (l0 : 0 ≤ lo) (_l1 : lo ≤ 18446744073709551615) (y0 : 1 ≤ y) (_y1 : y ≤ 18446744073709551615) (w : World) :
    Calls Tryz.prog 122 #[.int .u64 0, .int .u64 lo, .int .u64 y] w fun e w' => ∃ r, e = .returned (.tuple #[.int .u64 (quo128 0 lo y), .int .u64 r]) ∧ ∃ n, w' = w.drewN n := by
  have h1 : ¬ y = 0 := by omega
  have e : Hid (lo / y = quo128 0 lo y) := by unfold quo128 Hid; simp
  have d0 : 0 ≤ lo / y := Int.ediv_nonneg l0 (by omega)
  have d1 : lo / y ≤ lo := Int.ediv_le_self _ l0
  go_enter Tryz.func122, Tryz.ntmps122
  go_wp2_with fail
  go_quiet (fail)
  go_wp2
  go_ret2
  exact ⟨_, retII e.out rfl, _, rfl⟩

theorem div64_any (hi lo y : Int) (h0 : 0 ≤ hi) (l0 : 0 ≤ lo) (l1 : lo ≤ 18446744073709551615) (y1 : y ≤ 18446744073709551615) (hy : hi < y) (w : World) :
    Calls Tryz.prog 122 #[.int .u64 hi, .int .u64 lo, .int .u64 y] w fun e w' => ∃ r, e = .returned (.tuple #[.int .u64 (quo128 hi lo y), .int .u64 r]) ∧ ∃ n, w' = w.drewN n := by
  by_cases h : hi = 0
  · subst h
    exact div64_low lo y l0 l1 (by omega) y1 w
  · refine (div64_big hi lo y (by omega) l0 l1 y1 hy w).mono ?_
    rintro e w' ⟨r, he, hw⟩
    exact ⟨r, he, 0, hw.symm⟩

theorem ratio_hi {hi lo d n : Int} (x : IsW hi lo n) (hs : n + d / 2 < 340282366920938463463374607431768211456) (hd : 1 ≤ d) :
    IntKind.u64.wrap (hi + hi64 (lo + d / 2)) = (n + d / 2) / 18446744073709551616 ∧ lo64 (lo + d / 2) = (n + d / 2) % 18446744073709551616 := by
  unfold IsW InU at x
  unfold hi64 lo64
  rw [wrap_u64]
  omega
theorem quo_big {m d : Int} (hd : 1 ≤ d) (h : d ≤ m / 18446744073709551616) : 18446744073709551616 ≤ m / d := by
  apply Int.le_ediv_of_mul_le (by omega)
  omega
theorem quo_low {m d : Int} (hd : 1 ≤ d) (hm : 0 ≤ m) (h : m / 18446744073709551616 < d) : 0 ≤ m / d ∧ m / d ≤ 18446744073709551615 := by
  constructor
  · exact Int.ediv_nonneg hm (by omega)
  · apply Int.le_of_lt_add_one
    apply Int.ediv_lt_of_lt_mul (by omega)
    omega
set_option maxHeartbeats 800000 in
theorem ratio_any (hi lo d n : Int) (neg : Bool) (x : IsW hi lo n) (hd : 1 ≤ d) (hd1 : d ≤ 18446744073709551615) (hs : n + d / 2 < 340282366920938463463374607431768211456) (w : World) :
    Calls Tryz.prog 90 #[.int .u64 hi, .int .u64 lo, .int .u64 d, .bool neg] w fun e w' =>
      e = .returned (.tuple #[.int .i64 (resV (sg ((n + d / 2) / d) neg)), .bool (resB (sg ((n + d / 2) / d) neg))]) ∧ ∃ k, w' = w.drewN k := by
  have hx := x.2.1
  have hh := x.1
  unfold InU at hx hh
  obtain ⟨hx0, hx1⟩ := hx
  obtain ⟨hh0, hh1⟩ := hh
  have hn := x.bd
  have R := Lib.hid (ratio_hi x hs hd)
  have hrun := fun (w : World) => add64_run lo (d / 2) hx0 (by omega) w
  obtain ⟨m, HM⟩ : ∃ m, Hid (n + d / 2 = m) := ⟨_, rfl⟩
  have hm0 : 0 ≤ m := by have := HM.out; omega
  rw [HM.out]
  have HX := Lib.hid x
  have HS := Lib.hid hs
  clear x hs hn
  go_enter Tryz.func90, Tryz.ntmps90
  by_cases hbig : d ≤ m / 18446744073709551616
  · have hq := quo_big hd hbig
    rw [resV_f (z := sg (m / d) neg) (by cases neg <;> simp [sg] <;> omega), resB_f (z := sg (m / d) neg) (by cases neg <;> simp [sg] <;> omega)]
    have hq' := Lib.hid hq
    clear hq
    go_upto_region 4 with (fail)
    rw [R.out.1, HM.out]
    go_wp2_with fail
    go_ret2
    exact ⟨rfl, 0, rfl⟩
  · have hq := quo_low hd hm0 (by omega)
    obtain ⟨q, HQ⟩ : ∃ q, Hid (m / d = q) := ⟨_, rfl⟩
    rw [HQ.out] at hq ⊢
    obtain ⟨hq0, hq1⟩ := hq
    go_upto_region 4 with (fail)
    rw [R.out.1, R.out.2, HM.out]
    have g0 : 0 ≤ m / 18446744073709551616 := Int.ediv_nonneg hm0 (by omega)
    go_wp2_with fail
    refine (div64_any _ _ _ g0 (by omega) (by omega) hd1 (by omega) _).mono ?_
    rintro e w1 ⟨r, rfl, k, rfl⟩
    have e1 : quo128 (m / 18446744073709551616) (m % 18446744073709551616) d = q := by
      rw [← HQ.out]; unfold quo128; congr 1; omega
    rw [e1]
    go_wp2_with fail
    refine (dsigned_any _ hq0 hq1 neg _).mono ?_
    rintro e w2 ⟨rfl, rfl⟩
    go_wp2_with fail
    go_ret2
    exact ⟨rfl, k, rfl⟩
end Go.Proofs.YtdanbabamcdebaaGreatDoor
