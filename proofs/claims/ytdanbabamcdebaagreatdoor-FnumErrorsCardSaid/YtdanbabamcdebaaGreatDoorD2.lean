/- Merged: DivMath Div. -/
import Derived.Test.YtdanbabamcdebaaGreatDoorD1
import Derived.Laws.MathBits
import Derived.Test.YtdanbabamcdebaaGreatDoorBits
import Derived.Deep.CutBlock
import Derived.Deep.QuietTactic
import Derived.BigQuiet
import Derived.Deep.DeepCutAuto
/- Plain arithmetic of a division of 128 bits by 64 bits, digit by digit of 32 bits. No program in sight. -/
namespace Go.Proofs.YtdanbabamcdebaaGreatDoor
open Go.RowKit

/-- The state of the estimate of a digit: q is at least the true digit, and r is what q leaves. -/
def Est (u yn1 yn0 un1 q r : Int) : Prop :=
  q * yn1 + r = u ∧ (u * 4294967296 + un1) / (yn1 * 4294967296 + yn0) ≤ q ∧ q ≤ 4294967297 ∧ 0 ≤ r ∧ 0 ≤ q
/-- A divisor with its high bit set, a dividend whose quotient is one digit. -/
def Nrm (u yn1 yn0 un1 : Int) : Prop :=
  2147483648 ≤ yn1 ∧ yn1 ≤ 4294967295 ∧ 0 ≤ yn0 ∧ yn0 ≤ 4294967295 ∧ 0 ≤ un1 ∧ un1 ≤ 4294967295 ∧ 0 ≤ u ∧ u < yn1 * 4294967296 + yn0
/-- The digit. -/
def dig (u yn1 yn0 un1 : Int) : Int := (u * 4294967296 + un1) / (yn1 * 4294967296 + yn0)

theorem Est.start {u yn1 yn0 un1 : Int} (n : Nrm u yn1 yn0 un1) : Est u yn1 yn0 un1 (u / yn1) (u - u / yn1 * yn1) ∧ u - u / yn1 * yn1 ≤ 4294967295 ∧ 0 ≤ u / yn1 * yn1 ∧ u / yn1 * yn1 ≤ u := by
  obtain ⟨a, b, c, d, e, f, g, h⟩ := n
  have hm := Int.emod_nonneg u (show yn1 ≠ 0 by omega)
  have hl := Int.emod_lt_of_pos u (show 0 < yn1 by omega)
  have he : u / yn1 * yn1 + u % yn1 = u := Int.ediv_mul_add_emod u yn1
  have hq : 0 ≤ u / yn1 := Int.ediv_nonneg g (by omega)
  have hp : 0 ≤ u / yn1 * yn1 := Int.mul_nonneg hq (by omega)
  refine ⟨⟨by omega, ?_, ?_, by omega, hq⟩, by omega, hp, by omega⟩
  · -- the true digit is at most u / yn1
    apply Int.le_of_lt_add_one
    apply Int.ediv_lt_of_lt_mul (by omega)
    have : (u / yn1 + 1) * (yn1 * 4294967296 + yn0) = (u / yn1 * yn1 + yn1) * 4294967296 + (u / yn1 + 1) * yn0 := by
      rw [Int.mul_add, ← Int.mul_assoc, Int.add_mul (u / yn1) 1 yn1, Int.one_mul]
    rw [this]
    have : 0 ≤ (u / yn1 + 1) * yn0 := Int.mul_nonneg (by omega) c
    omega
  · apply Int.le_of_lt_add_one
    apply Int.ediv_lt_of_lt_mul (by omega)
    omega
theorem Est.digit {u yn1 yn0 un1 q r : Int} (_n : Nrm u yn1 yn0 un1) (e : Est u yn1 yn0 un1 q r) :
    q * (yn1 * 4294967296 + yn0) = (u - r) * 4294967296 + q * yn0 := by
  have := e.1
  rw [Int.mul_add, ← Int.mul_assoc, show q * yn1 = u - r by omega]
theorem dig_lt {u yn1 yn0 un1 : Int} (n : Nrm u yn1 yn0 un1) : 0 ≤ dig u yn1 yn0 un1 ∧ dig u yn1 yn0 un1 ≤ 4294967295 := by
  obtain ⟨a, b, c, d, e, f, g, h⟩ := n
  unfold dig
  constructor
  · exact Int.ediv_nonneg (by omega) (by omega)
  · apply Int.le_of_lt_add_one
    apply Int.ediv_lt_of_lt_mul (by omega)
    omega
theorem Est.over {u yn1 yn0 un1 q r : Int} (n : Nrm u yn1 yn0 un1) (e : Est u yn1 yn0 un1 q r) (h : 4294967296 ≤ q) : Est u yn1 yn0 un1 (q - 1) (r + yn1) := by
  have hd := dig_lt n
  obtain ⟨a, b, c, d, f⟩ := e
  unfold dig at hd
  have := n.1
  exact ⟨by rw [Int.sub_mul]; omega, by omega, by omega, by omega, by omega⟩
theorem Est.more {u yn1 yn0 un1 q r : Int} (n : Nrm u yn1 yn0 un1) (e : Est u yn1 yn0 un1 q r) (h : 4294967296 * r + un1 < q * yn0) : Est u yn1 yn0 un1 (q - 1) (r + yn1) ∧ 1 ≤ q := by
  have hx := e.digit n
  obtain ⟨a, b, c, d, f⟩ := e
  have hlt : (u * 4294967296 + un1) / (yn1 * 4294967296 + yn0) < q := by
    apply Int.ediv_lt_of_lt_mul (by have := n.1; have := n.2.2.1; omega)
    rw [hx]; omega
  have h0 : 0 ≤ (u * 4294967296 + un1) / (yn1 * 4294967296 + yn0) := (dig_lt n).1
  have := n.1
  exact ⟨⟨by rw [Int.sub_mul]; omega, by omega, by omega, by omega, by omega⟩, by omega⟩
theorem Est.done {u yn1 yn0 un1 q r : Int} (n : Nrm u yn1 yn0 un1) (e : Est u yn1 yn0 un1 q r) (h : q * yn0 ≤ 4294967296 * r + un1) : q = dig u yn1 yn0 un1 := by
  have hx := e.digit n
  obtain ⟨a, b, c, d, f⟩ := e
  have : q ≤ (u * 4294967296 + un1) / (yn1 * 4294967296 + yn0) := by
    apply Int.le_ediv_of_mul_le (by have := n.1; have := n.2.2.1; omega)
    rw [hx]; omega
  unfold dig; omega
theorem Est.left {u yn1 yn0 un1 q r : Int} (n : Nrm u yn1 yn0 un1) (e : Est u yn1 yn0 un1 q r) (h : 4294967296 ≤ r) (hq : q ≤ 4294967296) : q = dig u yn1 yn0 un1 := by
  apply e.done n
  have h1 : q * yn0 ≤ 4294967296 * yn0 := Int.mul_le_mul_of_nonneg_right hq n.2.2.1
  have := n.2.2.2.1
  have := n.2.2.2.2.1
  omega
theorem prod_lt {q yn0 : Int} (hq0 : 0 ≤ q) (hq : q ≤ 4294967295) (h0 : 0 ≤ yn0) (h1 : yn0 ≤ 4294967295) : 0 ≤ q * yn0 ∧ q * yn0 ≤ 18446744065119617025 := prod_bound q yn0 hq0 hq h0 h1
/-- What a digit leaves. -/
def rst (u yn1 yn0 un1 : Int) : Int := u * 4294967296 + un1 - dig u yn1 yn0 un1 * (yn1 * 4294967296 + yn0)
theorem rst_bd {u yn1 yn0 un1 : Int} (n : Nrm u yn1 yn0 un1) : 0 ≤ rst u yn1 yn0 un1 ∧ rst u yn1 yn0 un1 < yn1 * 4294967296 + yn0 := by
  have hy : 0 < yn1 * 4294967296 + yn0 := by have := n.1; have := n.2.2.1; omega
  have e := Int.ediv_mul_add_emod (u * 4294967296 + un1) (yn1 * 4294967296 + yn0)
  have a := Int.emod_nonneg (u * 4294967296 + un1) (show yn1 * 4294967296 + yn0 ≠ 0 by omega)
  have b := Int.emod_lt_of_pos (u * 4294967296 + un1) hy
  unfold rst dig
  constructor <;> omega
/-- The two digits together. -/
theorem digits_two {u y1 y0 a b : Int} (n : Nrm u y1 y0 a) (m : Nrm (rst u y1 y0 a) y1 y0 b) :
    dig u y1 y0 a * 4294967296 + dig (rst u y1 y0 a) y1 y0 b = (u * 18446744073709551616 + a * 4294967296 + b) / (y1 * 4294967296 + y0) := by
  have hy : 0 < y1 * 4294967296 + y0 := by have := n.1; have := n.2.2.1; omega
  have hr := rst_bd m
  have e1 : rst u y1 y0 a = u * 4294967296 + a - dig u y1 y0 a * (y1 * 4294967296 + y0) := rfl
  have e2 : rst (rst u y1 y0 a) y1 y0 b = rst u y1 y0 a * 4294967296 + b - dig (rst u y1 y0 a) y1 y0 b * (y1 * 4294967296 + y0) := rfl
  generalize dig (rst u y1 y0 a) y1 y0 b = d2 at *
  generalize rst (rst u y1 y0 a) y1 y0 b = r2 at *
  generalize rst u y1 y0 a = r1 at *
  generalize dig u y1 y0 a = d1 at *
  generalize y1 * 4294967296 + y0 = y at *
  have e3 : u * 18446744073709551616 + a * 4294967296 + b = r2 + (d1 * 4294967296 + d2) * y := by
    rw [Int.add_mul, Int.mul_assoc, Int.mul_comm 4294967296 y, ← Int.mul_assoc]; omega
  rw [e3, Int.add_mul_ediv_right _ _ (by omega), Int.ediv_eq_zero_of_lt hr.1 hr.2]; omega
theorem pow_cast (k : Nat) : (2 : Int) ^ k = ((2 ^ k : Nat) : Int) := by simp
/-- The dividend and the divisor, shifted so that the divisor's high bit is set. -/
theorem norm_facts {hi lo y : Int} (h0 : 1 ≤ hi) (l0 : 0 ≤ lo) (l1 : lo ≤ 18446744073709551615) (y1 : y ≤ 18446744073709551615) (hy : hi < y) :
    ∃ (s : Nat) (P : Int), 64 - (bitLen y.toNat : Int) = s ∧ s ≤ 63 ∧ 1 ≤ P ∧ (2 : Int) ^ s = P ∧ IntKind.u64.wrap (y * P) = y * P ∧ 9223372036854775808 ≤ y * P ∧ y * P ≤ 18446744073709551615 ∧
      bits .or .u64 (IntKind.u64.wrap (hi * P)) (lo / 2 ^ (64 - s)) * 18446744073709551616 + IntKind.u64.wrap (lo * P) = (hi * 18446744073709551616 + lo) * P ∧
      0 ≤ bits .or .u64 (IntKind.u64.wrap (hi * P)) (lo / 2 ^ (64 - s)) ∧ bits .or .u64 (IntKind.u64.wrap (hi * P)) (lo / 2 ^ (64 - s)) < y * P := by
  obtain ⟨Y, rfl⟩ := Int.eq_ofNat_of_zero_le (show 0 ≤ y by omega)
  obtain ⟨H, rfl⟩ := Int.eq_ofNat_of_zero_le (show 0 ≤ hi by omega)
  obtain ⟨L, rfl⟩ := Int.eq_ofNat_of_zero_le l0
  rw [Int.toNat_natCast]
  have hY : Y ≠ 0 := by omega
  have b1 := (bitLen_spec Y).1
  have b2 := (bitLen_spec Y).2 hY
  have hb0 : 1 ≤ bitLen Y := by simp [bitLen, hY]
  have hb : bitLen Y ≤ 64 := by
    rcases Nat.lt_or_ge 64 (bitLen Y) with h | h
    · have h4 : 2 ^ 64 ≤ 2 ^ (bitLen Y - 1) := Nat.pow_le_pow_right (by omega) (by omega)
      omega
    · exact h
  obtain ⟨s, hs⟩ : ∃ s, s = 64 - bitLen Y := ⟨_, rfl⟩
  have p1 : 2 ^ bitLen Y * 2 ^ s = 2 ^ 64 := by rw [← Nat.pow_add]; congr 1; omega
  have p2 : 2 ^ (bitLen Y - 1) * 2 ^ s = 2 ^ 63 := by rw [← Nat.pow_add]; congr 1; omega
  have p3 : 2 ^ (64 - s) * 2 ^ s = 2 ^ 64 := by rw [← Nat.pow_add]; congr 1; omega
  have pp : 0 < 2 ^ s := Nat.two_pow_pos s
  have m1 : Y * 2 ^ s < 2 ^ 64 := by rw [← p1]; exact Nat.mul_lt_mul_of_pos_right b1 pp
  have m2 : 2 ^ 63 ≤ Y * 2 ^ s := by rw [← p2]; exact Nat.mul_le_mul_right _ b2
  have m3 : (H + 1) * 2 ^ s ≤ Y * 2 ^ s := Nat.mul_le_mul_right _ (by omega)
  rw [Nat.add_mul, Nat.one_mul] at m3
  have hQ : 0 < 2 ^ (64 - s) := Nat.two_pow_pos _
  have d1 : L / 2 ^ (64 - s) < 2 ^ s := by
    apply (Nat.div_lt_iff_lt_mul hQ).2
    rw [Nat.mul_comm, p3]; omega
  have d2 : 2 ^ (64 - s) * (L / 2 ^ (64 - s)) + L % 2 ^ (64 - s) = L := Nat.div_add_mod _ _
  have d3 : L % 2 ^ (64 - s) < 2 ^ (64 - s) := Nat.mod_lt _ hQ
  have d4 : L % 2 ^ (64 - s) * 2 ^ s < 2 ^ 64 := by rw [← p3]; exact Nat.mul_lt_mul_of_pos_right d3 pp
  have d5 : L * 2 ^ s = (L / 2 ^ (64 - s)) * 2 ^ 64 + L % 2 ^ (64 - s) * 2 ^ s := by
    have h : (2 ^ (64 - s) * (L / 2 ^ (64 - s)) + L % 2 ^ (64 - s)) * 2 ^ s = L * 2 ^ s := congrArg (· * 2 ^ s) d2
    rw [← h, Nat.add_mul]
    congr 1
    rw [Nat.mul_comm (2 ^ (64 - s)), Nat.mul_assoc, p3]
  have eP : (2 : Int) ^ s = ((2 ^ s : Nat) : Int) := pow_cast s
  have eQ : (L : Int) / 2 ^ (64 - s) = ((L / 2 ^ (64 - s) : Nat) : Int) := by rw [pow_cast, ← Int.natCast_ediv]
  have eH : IntKind.u64.wrap ((H : Int) * ((2 ^ s : Nat) : Int)) = ((H * 2 ^ s : Nat) : Int) := by rw [wrap_u64, Int.natCast_mul]; rw [← Int.natCast_mul]; omega
  have eL : IntKind.u64.wrap ((L : Int) * ((2 ^ s : Nat) : Int)) = ((L % 2 ^ (64 - s) * 2 ^ s : Nat) : Int) := by rw [wrap_u64, ← Int.natCast_mul, d5]; omega
  have eO : bits .or .u64 ((H * 2 ^ s : Nat) : Int) ((L / 2 ^ (64 - s) : Nat) : Int) = ((H * 2 ^ s + L / 2 ^ (64 - s) : Nat) : Int) := by
    rw [u64_or_nat _ _ (by omega) (by omega), nat_join s _ _ (by simp) d1]
  refine ⟨s, ((2 ^ s : Nat) : Int), by omega, by omega, by omega, eP, ?_, ?_, ?_, ?_, ?_, ?_⟩
  · rw [wrap_u64, ← Int.natCast_mul]; omega
  · rw [← Int.natCast_mul]; omega
  · rw [← Int.natCast_mul]; omega
  · rw [eQ, eH, eL, eO, Int.add_mul, Int.mul_right_comm, ← Int.natCast_mul L, d5, ← Int.natCast_mul]; omega
  · rw [eQ, eH, eO]; omega
  · rw [eQ, eH, eO, ← Int.natCast_mul]; omega
theorem rst_wrap {u yn1 yn0 un1 z : Int} (n : Nrm u yn1 yn0 un1) (hz : yn1 * 4294967296 + yn0 = z) (hz1 : z ≤ 18446744073709551615) :
    IntKind.u64.wrap (IntKind.u64.wrap (IntKind.u64.wrap (u * 4294967296) + un1) - IntKind.u64.wrap (dig u yn1 yn0 un1 * z)) = rst u yn1 yn0 un1 := by
  have b := rst_bd n
  have e : rst u yn1 yn0 un1 = u * 4294967296 + un1 - dig u yn1 yn0 un1 * (yn1 * 4294967296 + yn0) := rfl
  rw [hz] at e b
  generalize dig u yn1 yn0 un1 * z = k at *
  simp only [wrap_u64]
  omega
theorem nrm_next {u yn1 yn0 un1 un0 : Int} (n : Nrm u yn1 yn0 un1) (h : 0 ≤ un0 ∧ un0 ≤ 4294967295) : Nrm (rst u yn1 yn0 un1) yn1 yn0 un0 := by
  have b := rst_bd n
  obtain ⟨p1, p2, p3, p4, p5, p6, p7, p8⟩ := n
  exact ⟨p1, p2, p3, p4, h.1, h.2, b.1, b.2⟩
/-- The quotient of a number of 128 bits. -/
def quo128 (hi lo y : Int) : Int := (hi * 18446744073709551616 + lo) / y
theorem quo_shift {hi lo y P u v z yn1 yn0 un1 un0 : Int} (hP : 1 ≤ P) (hz : y * P = z) (hm : u * 18446744073709551616 + v = (hi * 18446744073709551616 + lo) * P)
    (e1 : z / 4294967296 = yn1) (e0 : z % 4294967296 = yn0) (f1 : v / 4294967296 = un1) (f0 : v % 4294967296 = un0) :
    (u * 18446744073709551616 + un1 * 4294967296 + un0) / (yn1 * 4294967296 + yn0) = quo128 hi lo y := by
  have a : u * 18446744073709551616 + un1 * 4294967296 + un0 = (hi * 18446744073709551616 + lo) * P := by omega
  have b : yn1 * 4294967296 + yn0 = y * P := by omega
  rw [a, b]
  unfold quo128
  exact Int.mul_ediv_mul_of_pos_left _ _ (by omega)
end Go.Proofs.YtdanbabamcdebaaGreatDoor
/- The contract of math/bits.Div64: the quotient of a number of 128 bits, if it is less than 2^64; and of dec.ratio. -/
namespace Go.Proofs.YtdanbabamcdebaaGreatDoor
open Go.RowKit
set_option maxRecDepth 100000 in
set_option maxHeartbeats 1600000 in
theorem div64_big (hi lo y : Int) (h0 : 1 ≤ hi) (l0 : 0 ≤ lo) (l1 : lo ≤ 18446744073709551615) (y1 : y ≤ 18446744073709551615) (hy : hi < y) (w : World) :
    Calls Tryz.prog 122 #[.int .u64 hi, .int .u64 lo, .int .u64 y] w fun e w' => ∃ r, e = .returned (.tuple #[.int .u64 (quo128 hi lo y), .int .u64 r]) ∧ w = w' := by
  obtain ⟨s, P, hs, hs63, hP, hpow, hw, hn1, hn2, hu, hu0, hu1⟩ := norm_facts h0 l0 l1 y1 hy
  have HS := Lib.hid hs
  have HPOW := Lib.hid hpow
  have HW := Lib.hid hw
  have HU := Lib.hid hu
  have HU0 := Lib.hid hu0
  have HU1 := Lib.hid hu1
  have HN := Lib.hid (And.intro hn1 hn2)
  clear hs hpow hw hu hu0 hu1 hn1 hn2
  go_enter Tryz.func122, Tryz.ntmps122
  go_wp2_with fail
  refine (lz64_any y (by omega) (by omega) _).mono ?_
  rintro e w' ⟨rfl, rfl⟩
  rw [HS.out]
  go_upto_region 15 with (fail)
  rw [HPOW.out, HW.out]
  have hyy := HN.out
  have hlo : 0 ≤ IntKind.u64.wrap (lo * P) ∧ IntKind.u64.wrap (lo * P) ≤ 18446744073709551615 := by rw [wrap_u64]; omega
  rw [and_low32 (y * P) (by omega) (by omega), and_low32 (IntKind.u64.wrap (lo * P)) (by omega) (by omega)]
  obtain ⟨u, EU⟩ : ∃ u, Hid (bits .or .u64 (IntKind.u64.wrap (hi * P)) (lo / 2 ^ (64 - s)) = u) := ⟨_, rfl⟩
  obtain ⟨v, EV⟩ : ∃ v, Hid (IntKind.u64.wrap (lo * P) = v) := ⟨_, rfl⟩
  obtain ⟨z, EZ⟩ : ∃ z, Hid (y * P = z) := ⟨_, rfl⟩
  rw [EU.out, EV.out, EZ.out]
  rw [EZ.out] at hyy
  rw [EV.out] at hlo
  have hu0 : 0 ≤ u := by have := HU0.out; rw [EU.out] at this; exact this
  have hu1 : u < z := by have := HU1.out; rw [EU.out, EZ.out] at this; exact this
  have HMAIN : Hid (u * 18446744073709551616 + v = (hi * 18446744073709551616 + lo) * P) := by have := HU.out; rw [EU.out, EV.out] at this; exact this
  clear HU HU0 HU1 HN
  obtain ⟨yn1, EY1⟩ : ∃ a, Hid (z / 4294967296 = a) := ⟨_, rfl⟩
  obtain ⟨yn0, EY0⟩ : ∃ a, Hid (z % 4294967296 = a) := ⟨_, rfl⟩
  obtain ⟨un1, EN1⟩ : ∃ a, Hid (v / 4294967296 = a) := ⟨_, rfl⟩
  obtain ⟨un0, EN0⟩ : ∃ a, Hid (v % 4294967296 = a) := ⟨_, rfl⟩
  have HN1 : Hid (Nrm u yn1 yn0 un1) := by have := EY1.out; have := EY0.out; have := EN1.out; unfold Hid Nrm; omega
  rw [EY1.out, EY0.out, EN1.out, EN0.out]
  have b1 : 2147483648 ≤ yn1 := HN1.out.1
  have b2 : yn1 ≤ 4294967295 := HN1.out.2.1
  have b3 : 0 ≤ yn0 := HN1.out.2.2.1
  have b4 : yn0 ≤ 4294967295 := HN1.out.2.2.2.1
  have b5 : 0 ≤ un1 := HN1.out.2.2.2.2.1
  have b6 : un1 ≤ 4294967295 := HN1.out.2.2.2.2.2.1
  have b7 : 0 ≤ un0 ∧ un0 ≤ 4294967295 := by have := EN0.out; omega
  obtain ⟨st, sr, sp0, sp1⟩ := Est.start HN1.out
  obtain ⟨q, EQ⟩ : ∃ a, Hid (u / yn1 = a) := ⟨_, rfl⟩
  rw [EQ.out] at st sr sp0 sp1
  have sq0 : 0 ≤ q := st.2.2.2.2
  have sq1 : q ≤ 4294967297 := st.2.2.1
  go_upto_region 16 with (fail)
  rw [EQ.out]
  go_upto_block 0 with (fail)
  have HD1 : Hid (0 ≤ dig u yn1 yn0 un1 ∧ dig u yn1 yn0 un1 ≤ 4294967295) := dig_lt HN1.out
  go_cut [15, 16] from 67 to 85 (fun d _ wx => d = .int .u64 (dig u yn1 yn0 un1) ∧ wx = w)
  case first =>
    go_wp2_with fail
    have hst := Lib.hid st
    clear st hu0 hu1 hyy hlo
    go_loop [15, 16] (fun a b => ∃ q r : Int, a = .int .u64 q ∧ b = .int .u64 r ∧ 0 ≤ q ∧ q ≤ 4294967297 ∧ 0 ≤ r ∧ r ≤ 4294967295 ∧ Est u yn1 yn0 un1 q r) (fun a _ => (intOf a).toNat)
    case atStart => exact ⟨_, _, rfl, rfl, sq0, sq1, hst.out.2.2.2.1, sr, hst.out⟩
    case round =>
      clear sr sp0 sp1 sq0 sq1 EQ hst
      obtain ⟨q, r, rfl, rfl, hq0, hq1, hr0, hr1, he⟩ := hrel
      by_cases hbig : 4294967296 ≤ q
      · have hx : Hid (Est u yn1 yn0 un1 (q - 1) (r + yn1)) := he.over HN1.out hbig
        by_cases hlim : 4294967296 ≤ r + yn1
        · have hfin : Hid (q - 1 = dig u yn1 yn0 un1) := hx.out.left HN1.out hlim (by omega)
          clear he
          go_wp2_with fail
          go_meet
          exact ⟨by rw [hfin.out], rfl⟩
        · go_wp2_with fail
          go_round
          case rel => exact ⟨_, _, rfl, rfl, by omega, by omega, by omega, by omega, hx.out⟩
          case measure => simp [intOf]; omega
      · have hp := prod_lt hq0 (by omega) b3 b4
        obtain ⟨hp0, hp1⟩ := hp
        by_cases hgt : 4294967296 * r + un1 < q * yn0
        · obtain ⟨hx1, hx2⟩ := he.more HN1.out hgt
          have hx := Lib.hid hx1
          clear hx1
          by_cases hlim : 4294967296 ≤ r + yn1
          · have hfin : Hid (q - 1 = dig u yn1 yn0 un1) := hx.out.left HN1.out hlim (by omega)
            clear he
            go_wp2_with fail
            go_meet
            exact ⟨by rw [hfin.out], rfl⟩
          · go_wp2_with fail
            go_round
            case rel => exact ⟨_, _, rfl, rfl, by omega, by omega, by omega, by omega, hx.out⟩
            case measure => simp [intOf]; omega
        · have hfin : Hid (q = dig u yn1 yn0 un1) := he.done HN1.out (by omega)
          clear he
          go_wp2_with fail
          go_meet
          exact ⟨by rw [hfin.out], rfl⟩
  case rest =>
    obtain ⟨rfl, rfl⟩ := hcut
    clear st sr sp0 sp1 sq0 sq1 EQ
    have HZ : Hid (yn1 * 4294967296 + yn0 = z) := by have := EY1.out; have := EY0.out; unfold Hid; omega
    have HR : Hid _ := rst_wrap HN1.out HZ.out hyy.2
    have HN2 : Hid (Nrm (rst u yn1 yn0 un1) yn1 yn0 un0) := nrm_next HN1.out b7
    obtain ⟨hd0, hd1⟩ := HD1.out
    have HFIN : Hid (dig u yn1 yn0 un1 * 4294967296 + dig (rst u yn1 yn0 un1) yn1 yn0 un0 = quo128 hi lo y) := by
      have := digits_two HN1.out HN2.out
      rw [quo_shift hP EZ.out HMAIN.out EY1.out EY0.out EN1.out EN0.out] at this
      exact this
    obtain ⟨d, ED⟩ : ∃ d, d = dig u yn1 yn0 un1 := ⟨_, rfl⟩
    have HE : Hid (rst u yn1 yn0 un1 = rst u yn1 yn0 un1) := rfl
    rw [← ED] at HR HFIN hd0 hd1 ⊢
    have ED' := Lib.hid ED
    clear ED
    go_upto_region 22 with (fail)
    rw [HR.out]
    obtain ⟨x, EX⟩ : ∃ x, rst u yn1 yn0 un1 = x := ⟨_, rfl⟩
    rw [EX] at HN2 HFIN ⊢
    clear EX HE HR
    have hx0 : 0 ≤ x := HN2.out.2.2.2.2.2.2.1
    have hx1 : x < z := by have := HN2.out.2.2.2.2.2.2.2; have := HZ.out; omega
    have b8 : un0 ≤ 4294967295 := b7.2
    have b9 : 0 ≤ un0 := b7.1
    obtain ⟨st, sr, sp0, sp1⟩ := Est.start HN2.out
    obtain ⟨q2, EQ⟩ : ∃ a, Hid (x / yn1 = a) := ⟨_, rfl⟩
    rw [EQ.out] at st sr sp0 sp1
    have sq0 : 0 ≤ q2 := st.2.2.2.2
    have sq1 : q2 ≤ 4294967297 := st.2.2.1
    go_upto_region 23 with (fail)
    rw [EQ.out]
    go_upto_block 2 with (fail)
    have HD2 : Hid (0 ≤ dig x yn1 yn0 un0 ∧ dig x yn1 yn0 un0 ≤ 4294967295) := dig_lt HN2.out
    go_cut [18, 16] from 102 to 120 (fun d _ wx => d = .int .u64 (dig x yn1 yn0 un0) ∧ wx = wc)
    case first =>
      go_wp2_with fail
      have hst := Lib.hid st
      clear st hu0 hu1 hyy hlo
      go_loop [18, 16] (fun a b => ∃ q r : Int, a = .int .u64 q ∧ b = .int .u64 r ∧ 0 ≤ q ∧ q ≤ 4294967297 ∧ 0 ≤ r ∧ r ≤ 4294967295 ∧ Est x yn1 yn0 un0 q r) (fun a _ => (intOf a).toNat)
      case atStart => exact ⟨_, _, rfl, rfl, sq0, sq1, hst.out.2.2.2.1, sr, hst.out⟩
      case round =>
        clear sr sp0 sp1 sq0 sq1 EQ hst
        obtain ⟨q, r, rfl, rfl, hq0, hq1, hr0, hr1, he⟩ := hrel
        by_cases hbig : 4294967296 ≤ q
        · have hx : Hid (Est x yn1 yn0 un0 (q - 1) (r + yn1)) := he.over HN2.out hbig
          by_cases hlim : 4294967296 ≤ r + yn1
          · have hfin : Hid (q - 1 = dig x yn1 yn0 un0) := hx.out.left HN2.out hlim (by omega)
            clear he
            go_wp2_with fail
            go_meet
            exact ⟨by rw [hfin.out], rfl⟩
          · go_wp2_with fail
            go_round
            case rel => exact ⟨_, _, rfl, rfl, by omega, by omega, by omega, by omega, hx.out⟩
            case measure => simp [intOf]; omega
        · have hp := prod_lt hq0 (by omega) b3 b4
          obtain ⟨hp0, hp1⟩ := hp
          by_cases hgt : 4294967296 * r + un0 < q * yn0
          · obtain ⟨hx1, hx2⟩ := he.more HN2.out hgt
            have hx := Lib.hid hx1
            clear hx1
            by_cases hlim : 4294967296 ≤ r + yn1
            · have hfin : Hid (q - 1 = dig x yn1 yn0 un0) := hx.out.left HN2.out hlim (by omega)
              clear he
              go_wp2_with fail
              go_meet
              exact ⟨by rw [hfin.out], rfl⟩
            · go_wp2_with fail
              go_round
              case rel => exact ⟨_, _, rfl, rfl, by omega, by omega, by omega, by omega, hx.out⟩
              case measure => simp [intOf]; omega
          · have hfin : Hid (q = dig x yn1 yn0 un0) := he.done HN2.out (by omega)
            clear he
            go_wp2_with fail
            go_meet
            exact ⟨by rw [hfin.out], rfl⟩
    case rest =>
      rename_i wc2
      obtain ⟨rfl, rfl⟩ := hcut
      clear st sr sp0 sp1 sq0 sq1 EQ
      obtain ⟨d2, ED2⟩ : ∃ d2, d2 = dig x yn1 yn0 un0 := ⟨_, rfl⟩
      rw [← ED2] at HD2 HFIN ⊢
      have ED2' := Lib.hid ED2
      clear ED2
      obtain ⟨hd20, hd21⟩ := HD2.out
      go_wp2_with fail
      go_ret2
      exact ⟨_, retII HFIN.out rfl, rfl⟩

set_option maxHeartbeats 400000 in
theorem div64_low (lo y : Int) (l0 : 0 ≤ lo) (_l1 : lo ≤ 18446744073709551615) (y0 : 1 ≤ y) (_y1 : y ≤ 18446744073709551615) (w : World) :
    Calls Tryz.prog 122 #[.int .u64 0, .int .u64 lo, .int .u64 y] w fun e w' => ∃ r, e = .returned (.tuple #[.int .u64 (quo128 0 lo y), .int .u64 r]) ∧ ∃ n, w' = w.drewN n := by
  have h1 : ¬ y = 0 := by omega
  have e : Hid (lo / y = quo128 0 lo y) := by unfold quo128 Hid; simp
  have d0 : 0 ≤ lo / y := Int.ediv_nonneg l0 (by omega)
  have d1 : lo / y ≤ lo := Int.ediv_le_self _ l0
  go_enter Tryz.func122, Tryz.ntmps122
  go_wp2_with fail
  go_quiet (fail)
  go_wp2
  go_ret2
  exact ⟨_, retII e.out rfl, _, rfl⟩

theorem div64_any (hi lo y : Int) (h0 : 0 ≤ hi) (l0 : 0 ≤ lo) (l1 : lo ≤ 18446744073709551615) (y1 : y ≤ 18446744073709551615) (hy : hi < y) (w : World) :
    Calls Tryz.prog 122 #[.int .u64 hi, .int .u64 lo, .int .u64 y] w fun e w' => ∃ r, e = .returned (.tuple #[.int .u64 (quo128 hi lo y), .int .u64 r]) ∧ ∃ n, w' = w.drewN n := by
  by_cases h : hi = 0
  · subst h
    exact div64_low lo y l0 l1 (by omega) y1 w
  · refine (div64_big hi lo y (by omega) l0 l1 y1 hy w).mono ?_
    rintro e w' ⟨r, he, hw⟩
    exact ⟨r, he, 0, hw.symm⟩

theorem ratio_hi {hi lo d n : Int} (x : IsW hi lo n) (hs : n + d / 2 < 340282366920938463463374607431768211456) (hd : 1 ≤ d) :
    IntKind.u64.wrap (hi + hi64 (lo + d / 2)) = (n + d / 2) / 18446744073709551616 ∧ lo64 (lo + d / 2) = (n + d / 2) % 18446744073709551616 := by
  unfold IsW InU at x
  unfold hi64 lo64
  rw [wrap_u64]
  omega
theorem quo_big {m d : Int} (hd : 1 ≤ d) (h : d ≤ m / 18446744073709551616) : 18446744073709551616 ≤ m / d := by
  apply Int.le_ediv_of_mul_le (by omega)
  omega
theorem quo_low {m d : Int} (hd : 1 ≤ d) (hm : 0 ≤ m) (h : m / 18446744073709551616 < d) : 0 ≤ m / d ∧ m / d ≤ 18446744073709551615 := by
  constructor
  · exact Int.ediv_nonneg hm (by omega)
  · apply Int.le_of_lt_add_one
    apply Int.ediv_lt_of_lt_mul (by omega)
    omega
set_option maxHeartbeats 800000 in
theorem ratio_any (hi lo d n : Int) (neg : Bool) (x : IsW hi lo n) (hd : 1 ≤ d) (hd1 : d ≤ 18446744073709551615) (hs : n + d / 2 < 340282366920938463463374607431768211456) (w : World) :
    Calls Tryz.prog 90 #[.int .u64 hi, .int .u64 lo, .int .u64 d, .bool neg] w fun e w' =>
      e = .returned (.tuple #[.int .i64 (resV (sg ((n + d / 2) / d) neg)), .bool (resB (sg ((n + d / 2) / d) neg))]) ∧ ∃ k, w' = w.drewN k := by
  have hx := x.2.1
  have hh := x.1
  unfold InU at hx hh
  obtain ⟨hx0, hx1⟩ := hx
  obtain ⟨hh0, hh1⟩ := hh
  have hn := x.bd
  have R := Lib.hid (ratio_hi x hs hd)
  have hrun := fun (w : World) => add64_run lo (d / 2) hx0 (by omega) w
  obtain ⟨m, HM⟩ : ∃ m, Hid (n + d / 2 = m) := ⟨_, rfl⟩
  have hm0 : 0 ≤ m := by have := HM.out; omega
  rw [HM.out]
  have HX := Lib.hid x
  have HS := Lib.hid hs
  clear x hs hn
  go_enter Tryz.func90, Tryz.ntmps90
  by_cases hbig : d ≤ m / 18446744073709551616
  · have hq := quo_big hd hbig
    rw [resV_f (z := sg (m / d) neg) (by cases neg <;> simp [sg] <;> omega), resB_f (z := sg (m / d) neg) (by cases neg <;> simp [sg] <;> omega)]
    have hq' := Lib.hid hq
    clear hq
    go_upto_region 4 with (fail)
    rw [R.out.1, HM.out]
    go_wp2_with fail
    go_ret2
    exact ⟨rfl, 0, rfl⟩
  · have hq := quo_low hd hm0 (by omega)
    obtain ⟨q, HQ⟩ : ∃ q, Hid (m / d = q) := ⟨_, rfl⟩
    rw [HQ.out] at hq ⊢
    obtain ⟨hq0, hq1⟩ := hq
    go_upto_region 4 with (fail)
    rw [R.out.1, R.out.2, HM.out]
    have g0 : 0 ≤ m / 18446744073709551616 := Int.ediv_nonneg hm0 (by omega)
    go_wp2_with fail
    refine (div64_any _ _ _ g0 (by omega) (by omega) hd1 (by omega) _).mono ?_
    rintro e w1 ⟨r, rfl, k, rfl⟩
    have e1 : quo128 (m / 18446744073709551616) (m % 18446744073709551616) d = q := by
      rw [← HQ.out]; unfold quo128; congr 1; omega
    rw [e1]
    go_wp2_with fail
    refine (dsigned_any _ hq0 hq1 neg _).mono ?_
    rintro e w2 ⟨rfl, rfl⟩
    go_wp2_with fail
    go_ret2
    exact ⟨rfl, k, rfl⟩
end Go.Proofs.YtdanbabamcdebaaGreatDoor
