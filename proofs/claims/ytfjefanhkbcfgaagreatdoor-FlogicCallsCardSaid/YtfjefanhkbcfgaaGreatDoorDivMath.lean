/- Plain arithmetic of a division of 128 bits by 64 bits, digit by digit of 32 bits. No program in sight. -/
import Derived.Test.YtfjefanhkbcfgaaGreatDoorNumMath
import Derived.Laws.MathBits
namespace Go.Proofs.YtfjefanhkbcfgaaGreatDoor
open Go.RowKit

/-- The state of the estimate of a digit: q is at least the true digit, and r is what q leaves. -/
def Est (u yn1 yn0 un1 q r : Int) : Prop :=
  q * yn1 + r = u ∧ (u * 4294967296 + un1) / (yn1 * 4294967296 + yn0) ≤ q ∧ q ≤ 4294967297 ∧ 0 ≤ r ∧ 0 ≤ q
/-- A divisor with its high bit set, a dividend whose quotient is one digit. -/
def Nrm (u yn1 yn0 un1 : Int) : Prop :=
  2147483648 ≤ yn1 ∧ yn1 ≤ 4294967295 ∧ 0 ≤ yn0 ∧ yn0 ≤ 4294967295 ∧ 0 ≤ un1 ∧ un1 ≤ 4294967295 ∧ 0 ≤ u ∧ u < yn1 * 4294967296 + yn0
/-- The digit. -/
def dig (u yn1 yn0 un1 : Int) : Int := (u * 4294967296 + un1) / (yn1 * 4294967296 + yn0)

theorem Est.start {u yn1 yn0 un1 : Int} (n : Nrm u yn1 yn0 un1) : Est u yn1 yn0 un1 (u / yn1) (u - u / yn1 * yn1) ∧ u - u / yn1 * yn1 ≤ 4294967295 ∧ 0 ≤ u / yn1 * yn1 ∧ u / yn1 * yn1 ≤ u := by
  obtain ⟨a, b, c, d, e, f, g, h⟩ := n
  have hm := Int.emod_nonneg u (show yn1 ≠ 0 by omega)
  have hl := Int.emod_lt_of_pos u (show 0 < yn1 by omega)
  have he : u / yn1 * yn1 + u % yn1 = u := Int.ediv_mul_add_emod u yn1
  have hq : 0 ≤ u / yn1 := Int.ediv_nonneg g (by omega)
  have hp : 0 ≤ u / yn1 * yn1 := Int.mul_nonneg hq (by omega)
  refine ⟨⟨by omega, ?_, ?_, by omega, hq⟩, by omega, hp, by omega⟩
  · -- the true digit is at most u / yn1
    apply Int.le_of_lt_add_one
    apply Int.ediv_lt_of_lt_mul (by omega)
    have : (u / yn1 + 1) * (yn1 * 4294967296 + yn0) = (u / yn1 * yn1 + yn1) * 4294967296 + (u / yn1 + 1) * yn0 := by
      rw [Int.mul_add, ← Int.mul_assoc, Int.add_mul (u / yn1) 1 yn1, Int.one_mul]
    rw [this]
    have : 0 ≤ (u / yn1 + 1) * yn0 := Int.mul_nonneg (by omega) c
    omega
  · apply Int.le_of_lt_add_one
    apply Int.ediv_lt_of_lt_mul (by omega)
    omega
theorem Est.digit {u yn1 yn0 un1 q r : Int} (_n : Nrm u yn1 yn0 un1) (e : Est u yn1 yn0 un1 q r) :
    q * (yn1 * 4294967296 + yn0) = (u - r) * 4294967296 + q * yn0 := by
  have := e.1
  rw [Int.mul_add, ← Int.mul_assoc, show q * yn1 = u - r by omega]
theorem dig_lt {u yn1 yn0 un1 : Int} (n : Nrm u yn1 yn0 un1) : 0 ≤ dig u yn1 yn0 un1 ∧ dig u yn1 yn0 un1 ≤ 4294967295 := by
  obtain ⟨a, b, c, d, e, f, g, h⟩ := n
  unfold dig
  constructor
  · exact Int.ediv_nonneg (by omega) (by omega)
  · apply Int.le_of_lt_add_one
    apply Int.ediv_lt_of_lt_mul (by omega)
    omega
theorem Est.over {u yn1 yn0 un1 q r : Int} (n : Nrm u yn1 yn0 un1) (e : Est u yn1 yn0 un1 q r) (h : 4294967296 ≤ q) : Est u yn1 yn0 un1 (q - 1) (r + yn1) := by
  have hd := dig_lt n
  obtain ⟨a, b, c, d, f⟩ := e
  unfold dig at hd
  have := n.1
  exact ⟨by rw [Int.sub_mul]; omega, by omega, by omega, by omega, by omega⟩
theorem Est.more {u yn1 yn0 un1 q r : Int} (n : Nrm u yn1 yn0 un1) (e : Est u yn1 yn0 un1 q r) (h : 4294967296 * r + un1 < q * yn0) : Est u yn1 yn0 un1 (q - 1) (r + yn1) ∧ 1 ≤ q := by
  have hx := e.digit n
  obtain ⟨a, b, c, d, f⟩ := e
  have hlt : (u * 4294967296 + un1) / (yn1 * 4294967296 + yn0) < q := by
    apply Int.ediv_lt_of_lt_mul (by have := n.1; have := n.2.2.1; omega)
    rw [hx]; omega
  have h0 : 0 ≤ (u * 4294967296 + un1) / (yn1 * 4294967296 + yn0) := (dig_lt n).1
  have := n.1
  exact ⟨⟨by rw [Int.sub_mul]; omega, by omega, by omega, by omega, by omega⟩, by omega⟩
theorem Est.done {u yn1 yn0 un1 q r : Int} (n : Nrm u yn1 yn0 un1) (e : Est u yn1 yn0 un1 q r) (h : q * yn0 ≤ 4294967296 * r + un1) : q = dig u yn1 yn0 un1 := by
  have hx := e.digit n
  obtain ⟨a, b, c, d, f⟩ := e
  have : q ≤ (u * 4294967296 + un1) / (yn1 * 4294967296 + yn0) := by
    apply Int.le_ediv_of_mul_le (by have := n.1; have := n.2.2.1; omega)
    rw [hx]; omega
  unfold dig; omega
theorem Est.left {u yn1 yn0 un1 q r : Int} (n : Nrm u yn1 yn0 un1) (e : Est u yn1 yn0 un1 q r) (h : 4294967296 ≤ r) (hq : q ≤ 4294967296) : q = dig u yn1 yn0 un1 := by
  apply e.done n
  have h1 : q * yn0 ≤ 4294967296 * yn0 := Int.mul_le_mul_of_nonneg_right hq n.2.2.1
  have := n.2.2.2.1
  have := n.2.2.2.2.1
  omega
theorem prod_lt {q yn0 : Int} (hq0 : 0 ≤ q) (hq : q ≤ 4294967295) (h0 : 0 ≤ yn0) (h1 : yn0 ≤ 4294967295) : 0 ≤ q * yn0 ∧ q * yn0 ≤ 18446744065119617025 := prod_bound q yn0 hq0 hq h0 h1
/-- What a digit leaves. -/
def rst (u yn1 yn0 un1 : Int) : Int := u * 4294967296 + un1 - dig u yn1 yn0 un1 * (yn1 * 4294967296 + yn0)
theorem rst_bd {u yn1 yn0 un1 : Int} (n : Nrm u yn1 yn0 un1) : 0 ≤ rst u yn1 yn0 un1 ∧ rst u yn1 yn0 un1 < yn1 * 4294967296 + yn0 := by
  have hy : 0 < yn1 * 4294967296 + yn0 := by have := n.1; have := n.2.2.1; omega
  have e := Int.ediv_mul_add_emod (u * 4294967296 + un1) (yn1 * 4294967296 + yn0)
  have a := Int.emod_nonneg (u * 4294967296 + un1) (show yn1 * 4294967296 + yn0 ≠ 0 by omega)
  have b := Int.emod_lt_of_pos (u * 4294967296 + un1) hy
  unfold rst dig
  constructor <;> omega
/-- The two digits together. -/
theorem digits_two {u y1 y0 a b : Int} (n : Nrm u y1 y0 a) (m : Nrm (rst u y1 y0 a) y1 y0 b) :
    dig u y1 y0 a * 4294967296 + dig (rst u y1 y0 a) y1 y0 b = (u * 18446744073709551616 + a * 4294967296 + b) / (y1 * 4294967296 + y0) := by
  have hy : 0 < y1 * 4294967296 + y0 := by have := n.1; have := n.2.2.1; omega
  have hr := rst_bd m
  have e1 : rst u y1 y0 a = u * 4294967296 + a - dig u y1 y0 a * (y1 * 4294967296 + y0) := rfl
  have e2 : rst (rst u y1 y0 a) y1 y0 b = rst u y1 y0 a * 4294967296 + b - dig (rst u y1 y0 a) y1 y0 b * (y1 * 4294967296 + y0) := rfl
  generalize dig (rst u y1 y0 a) y1 y0 b = d2 at *
  generalize rst (rst u y1 y0 a) y1 y0 b = r2 at *
  generalize rst u y1 y0 a = r1 at *
  generalize dig u y1 y0 a = d1 at *
  generalize y1 * 4294967296 + y0 = y at *
  have e3 : u * 18446744073709551616 + a * 4294967296 + b = r2 + (d1 * 4294967296 + d2) * y := by
    rw [Int.add_mul, Int.mul_assoc, Int.mul_comm 4294967296 y, ← Int.mul_assoc]; omega
  rw [e3, Int.add_mul_ediv_right _ _ (by omega), Int.ediv_eq_zero_of_lt hr.1 hr.2]; omega
theorem pow_cast (k : Nat) : (2 : Int) ^ k = ((2 ^ k : Nat) : Int) := by simp
/-- The dividend and the divisor, shifted so that the divisor's high bit is set. -/
theorem norm_facts {hi lo y : Int} (h0 : 1 ≤ hi) (l0 : 0 ≤ lo) (l1 : lo ≤ 18446744073709551615) (y1 : y ≤ 18446744073709551615) (hy : hi < y) :
    ∃ (s : Nat) (P : Int), 64 - (bitLen y.toNat : Int) = s ∧ s ≤ 63 ∧ 1 ≤ P ∧ (2 : Int) ^ s = P ∧ IntKind.u64.wrap (y * P) = y * P ∧ 9223372036854775808 ≤ y * P ∧ y * P ≤ 18446744073709551615 ∧
      bits .or .u64 (IntKind.u64.wrap (hi * P)) (lo / 2 ^ (64 - s)) * 18446744073709551616 + IntKind.u64.wrap (lo * P) = (hi * 18446744073709551616 + lo) * P ∧
      0 ≤ bits .or .u64 (IntKind.u64.wrap (hi * P)) (lo / 2 ^ (64 - s)) ∧ bits .or .u64 (IntKind.u64.wrap (hi * P)) (lo / 2 ^ (64 - s)) < y * P := by
  obtain ⟨Y, rfl⟩ := Int.eq_ofNat_of_zero_le (show 0 ≤ y by omega)
  obtain ⟨H, rfl⟩ := Int.eq_ofNat_of_zero_le (show 0 ≤ hi by omega)
  obtain ⟨L, rfl⟩ := Int.eq_ofNat_of_zero_le l0
  rw [Int.toNat_natCast]
  have hY : Y ≠ 0 := by omega
  have b1 := (bitLen_spec Y).1
  have b2 := (bitLen_spec Y).2 hY
  have hb0 : 1 ≤ bitLen Y := by simp [bitLen, hY]
  have hb : bitLen Y ≤ 64 := by
    rcases Nat.lt_or_ge 64 (bitLen Y) with h | h
    · have h4 : 2 ^ 64 ≤ 2 ^ (bitLen Y - 1) := Nat.pow_le_pow_right (by omega) (by omega)
      omega
    · exact h
  obtain ⟨s, hs⟩ : ∃ s, s = 64 - bitLen Y := ⟨_, rfl⟩
  have p1 : 2 ^ bitLen Y * 2 ^ s = 2 ^ 64 := by rw [← Nat.pow_add]; congr 1; omega
  have p2 : 2 ^ (bitLen Y - 1) * 2 ^ s = 2 ^ 63 := by rw [← Nat.pow_add]; congr 1; omega
  have p3 : 2 ^ (64 - s) * 2 ^ s = 2 ^ 64 := by rw [← Nat.pow_add]; congr 1; omega
  have pp : 0 < 2 ^ s := Nat.two_pow_pos s
  have m1 : Y * 2 ^ s < 2 ^ 64 := by rw [← p1]; exact Nat.mul_lt_mul_of_pos_right b1 pp
  have m2 : 2 ^ 63 ≤ Y * 2 ^ s := by rw [← p2]; exact Nat.mul_le_mul_right _ b2
  have m3 : (H + 1) * 2 ^ s ≤ Y * 2 ^ s := Nat.mul_le_mul_right _ (by omega)
  rw [Nat.add_mul, Nat.one_mul] at m3
  have hQ : 0 < 2 ^ (64 - s) := Nat.two_pow_pos _
  have d1 : L / 2 ^ (64 - s) < 2 ^ s := by
    apply (Nat.div_lt_iff_lt_mul hQ).2
    rw [Nat.mul_comm, p3]; omega
  have d2 : 2 ^ (64 - s) * (L / 2 ^ (64 - s)) + L % 2 ^ (64 - s) = L := Nat.div_add_mod _ _
  have d3 : L % 2 ^ (64 - s) < 2 ^ (64 - s) := Nat.mod_lt _ hQ
  have d4 : L % 2 ^ (64 - s) * 2 ^ s < 2 ^ 64 := by rw [← p3]; exact Nat.mul_lt_mul_of_pos_right d3 pp
  have d5 : L * 2 ^ s = (L / 2 ^ (64 - s)) * 2 ^ 64 + L % 2 ^ (64 - s) * 2 ^ s := by
    have h : (2 ^ (64 - s) * (L / 2 ^ (64 - s)) + L % 2 ^ (64 - s)) * 2 ^ s = L * 2 ^ s := congrArg (· * 2 ^ s) d2
    rw [← h, Nat.add_mul]
    congr 1
    rw [Nat.mul_comm (2 ^ (64 - s)), Nat.mul_assoc, p3]
  have eP : (2 : Int) ^ s = ((2 ^ s : Nat) : Int) := pow_cast s
  have eQ : (L : Int) / 2 ^ (64 - s) = ((L / 2 ^ (64 - s) : Nat) : Int) := by rw [pow_cast, ← Int.natCast_ediv]
  have eH : IntKind.u64.wrap ((H : Int) * ((2 ^ s : Nat) : Int)) = ((H * 2 ^ s : Nat) : Int) := by rw [wrap_u64, Int.natCast_mul]; rw [← Int.natCast_mul]; omega
  have eL : IntKind.u64.wrap ((L : Int) * ((2 ^ s : Nat) : Int)) = ((L % 2 ^ (64 - s) * 2 ^ s : Nat) : Int) := by rw [wrap_u64, ← Int.natCast_mul, d5]; omega
  have eO : bits .or .u64 ((H * 2 ^ s : Nat) : Int) ((L / 2 ^ (64 - s) : Nat) : Int) = ((H * 2 ^ s + L / 2 ^ (64 - s) : Nat) : Int) := by
    rw [u64_or_nat _ _ (by omega) (by omega), nat_join s _ _ (by simp) d1]
  refine ⟨s, ((2 ^ s : Nat) : Int), by omega, by omega, by omega, eP, ?_, ?_, ?_, ?_, ?_, ?_⟩
  · rw [wrap_u64, ← Int.natCast_mul]; omega
  · rw [← Int.natCast_mul]; omega
  · rw [← Int.natCast_mul]; omega
  · rw [eQ, eH, eL, eO, Int.add_mul, Int.mul_right_comm, ← Int.natCast_mul L, d5, ← Int.natCast_mul]; omega
  · rw [eQ, eH, eO]; omega
  · rw [eQ, eH, eO, ← Int.natCast_mul]; omega
theorem rst_wrap {u yn1 yn0 un1 z : Int} (n : Nrm u yn1 yn0 un1) (hz : yn1 * 4294967296 + yn0 = z) (hz1 : z ≤ 18446744073709551615) :
    IntKind.u64.wrap (IntKind.u64.wrap (IntKind.u64.wrap (u * 4294967296) + un1) - IntKind.u64.wrap (dig u yn1 yn0 un1 * z)) = rst u yn1 yn0 un1 := by
  have b := rst_bd n
  have e : rst u yn1 yn0 un1 = u * 4294967296 + un1 - dig u yn1 yn0 un1 * (yn1 * 4294967296 + yn0) := rfl
  rw [hz] at e b
  generalize dig u yn1 yn0 un1 * z = k at *
  simp only [wrap_u64]
  omega
theorem nrm_next {u yn1 yn0 un1 un0 : Int} (n : Nrm u yn1 yn0 un1) (h : 0 ≤ un0 ∧ un0 ≤ 4294967295) : Nrm (rst u yn1 yn0 un1) yn1 yn0 un0 := by
  have b := rst_bd n
  obtain ⟨p1, p2, p3, p4, p5, p6, p7, p8⟩ := n
  exact ⟨p1, p2, p3, p4, h.1, h.2, b.1, b.2⟩
/-- The quotient of a number of 128 bits. -/
def quo128 (hi lo y : Int) : Int := (hi * 18446744073709551616 + lo) / y
theorem quo_shift {hi lo y P u v z yn1 yn0 un1 un0 : Int} (hP : 1 ≤ P) (hz : y * P = z) (hm : u * 18446744073709551616 + v = (hi * 18446744073709551616 + lo) * P)
    (e1 : z / 4294967296 = yn1) (e0 : z % 4294967296 = yn0) (f1 : v / 4294967296 = un1) (f0 : v % 4294967296 = un0) :
    (u * 18446744073709551616 + un1 * 4294967296 + un0) / (yn1 * 4294967296 + yn0) = quo128 hi lo y := by
  have a : u * 18446744073709551616 + un1 * 4294967296 + un0 = (hi * 18446744073709551616 + lo) * P := by omega
  have b : yn1 * 4294967296 + yn0 = y * P := by omega
  rw [a, b]
  unfold quo128
  exact Int.mul_ediv_mul_of_pos_left _ _ (by omega)
end Go.Proofs.YtfjefanhkbcfgaaGreatDoor
