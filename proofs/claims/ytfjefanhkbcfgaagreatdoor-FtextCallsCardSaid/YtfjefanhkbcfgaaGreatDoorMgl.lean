/- Merged: RefMath RefMul. -/
import Derived.Test.YtfjefanhkbcfgaaGreatDoorNumMath
import Derived.Laws.MathBits
import Derived.Test.YtfjefanhkbcfgaaGreatDoorHold
import Derived.Laws.ResultCell
/- Plain arithmetic of the specification's division bit by bit, and of its products. No program in sight. -/
namespace Go.Proofs.YtfjefanhkbcfgaaGreatDoor
open Go.RowKit

/-- A division bit by bit: after k bits T is what has been divided, X what is left (shifted up). -/
def Dv (n d : Int) (k : Nat) (xh xl qh ql r : Int) : Prop :=
  ∃ T X : Int, n * 2 ^ k = T * 340282366920938463463374607431768211456 + X ∧ 0 ≤ T ∧ IsW xh xl X ∧ IsW qh ql (T / d) ∧ r = T % d
theorem Dv.start {n d h l : Int} (x : IsW h l n) : Dv n d 0 h l 0 0 0 :=
  ⟨0, n, by simp, by omega, x, by simpa using IsW.zero, by simp⟩
theorem pow128 : (2 : Int) ^ 128 = 340282366920938463463374607431768211456 := by decide
theorem Dv.bdT {n : Int} {k : Nat} {T X : Int} (h0 : 0 ≤ n) (hk : k ≤ 128) (h : n * 2 ^ k = T * 340282366920938463463374607431768211456 + X) (hX : 0 ≤ X) : T ≤ n := by
  have hp : (2 : Int) ^ k ≤ 2 ^ 128 := by
    have := Nat.pow_le_pow_right (n := 2) (by omega) hk
    exact_mod_cast this
  rw [pow128] at hp
  have := Int.mul_le_mul_of_nonneg_left hp h0
  omega
/-- One bit more. -/
theorem Dv.next {n d : Int} {k : Nat} {xh xl qh ql r xh' xl' qh' ql' r' : Int} (hn : n < 340282366920938463463374607431768211456) (h0 : 0 ≤ n) (hk : k < 128) (hd : 1 ≤ d) (c : Int)
    (x : Dv n d k xh xl qh ql r) (hx : ∀ X, IsW xh xl X → IsW xh' xl' ((X + X) % 340282366920938463463374607431768211456))
    (hq : ∀ q, IsW qh ql q → 0 ≤ q → q * 2 + c < 340282366920938463463374607431768211456 → IsW qh' ql' (q * 2 + c))
    (hr : 0 ≤ r' ∧ r' < d) (he : r * 2 + xh / 9223372036854775808 = c * d + r') (_hc : 0 ≤ c) : Dv n d (k + 1) xh' xl' qh' ql' r' := by
  obtain ⟨T, X, h, hT, hX, hQ, rfl⟩ := x
  have hXb := hX.bd
  have hT' : n * 2 ^ (k + 1) = (2 * T + xh / 9223372036854775808) * 340282366920938463463374607431768211456 + (X + X) % 340282366920938463463374607431768211456 := by
    rw [Int.pow_succ, ← Int.mul_assoc, h]
    have := hX
    unfold IsW InU at this
    omega
  have hle : 2 * T + xh / 9223372036854775808 ≤ n := Dv.bdT h0 (by omega) hT' (by omega)
  have hxh : 0 ≤ xh / 9223372036854775808 := by have := hX.1.1; omega
  have e0 : T / d * d + T % d = T := Int.ediv_mul_add_emod T d
  have e1 : 2 * T + xh / 9223372036854775808 = (T / d * 2 + c) * d + r' := by
    rw [Int.add_mul, Int.mul_right_comm]; omega
  have eq1 : (2 * T + xh / 9223372036854775808) / d = T / d * 2 + c := by
    rw [e1, Int.add_comm, Int.add_mul_ediv_right _ _ (by omega), Int.ediv_eq_zero_of_lt hr.1 hr.2]; omega
  have eq2 : (2 * T + xh / 9223372036854775808) % d = r' := by
    rw [e1, Int.add_comm, Int.add_mul_emod_self_right, Int.emod_eq_of_lt hr.1 hr.2]
  have hq0 : 0 ≤ T / d := Int.ediv_nonneg hT (by omega)
  refine ⟨2 * T + xh / 9223372036854775808, (X + X) % 340282366920938463463374607431768211456, hT', by omega, hx X hX, ?_, eq2.symm⟩
  rw [eq1]
  apply hq _ hQ hq0
  have : (2 * T + xh / 9223372036854775808) / d ≤ 2 * T + xh / 9223372036854775808 := Int.ediv_le_self _ (by omega)
  omega
theorem times_sum {x y : Int} :
    x / 4294967296 * (y / 4294967296) * 18446744073709551616 + x % 4294967296 * (y % 4294967296) + (x / 4294967296 * (y % 4294967296)) * 4294967296 + (x % 4294967296 * (y / 4294967296)) * 4294967296 = x * y := by
  have ex : x = x / 4294967296 * 4294967296 + x % 4294967296 := by omega
  have ey : y = y / 4294967296 * 4294967296 + y % 4294967296 := by omega
  have := split_mul (x / 4294967296) (x % 4294967296) (y / 4294967296) (y % 4294967296)
  rw [← ex, ← ey] at this
  rw [this, Int.add_mul]
  omega
theorem IsW.inj {a b n m : Int} (x : IsW a b n) (y : IsW a b m) : n = m := by unfold IsW at *; omega
theorem IsW.sh {a b h l X : Int} (x : IsW a b X) (y : IsW h l ((X + X) % 340282366920938463463374607431768211456)) : ∀ q, IsW a b q → IsW h l ((q + q) % 340282366920938463463374607431768211456) := by
  intro q hq
  obtain rfl := x.inj hq
  exact y
end Go.Proofs.YtfjefanhkbcfgaaGreatDoor
/- Contracts of the specification's products and quotients (louvreref01.Times, Divide, Nearest, Mul, Quo). -/
namespace Go.Proofs.YtfjefanhkbcfgaaGreatDoor
open Go.RowKit

set_option maxHeartbeats 800000 in
theorem times_any (x y : Int) (hx : InU x) (hy : InU y) (w : World) :
    Calls Tryz.prog 150 #[.int .u64 x, .int .u64 y] w fun e w' =>
      ∃ h l, e = .returned (.agg #[.int .u64 h, .int .u64 l]) ∧ IsW h l (x * y) ∧ Below w.heap.size w w' := by
  obtain ⟨hx0, hx1⟩ := hx
  obtain ⟨hy0, hy1⟩ := hy
  have HS := Lib.hid (times_sum (x := x) (y := y))
  obtain ⟨p0, p1⟩ := prod_bound (x / 4294967296) (y / 4294967296) (by omega) (by omega) (by omega) (by omega)
  obtain ⟨q0, q1⟩ := prod_bound (x / 4294967296) (y % 4294967296) (by omega) (by omega) (by omega) (by omega)
  obtain ⟨r0, r1⟩ := prod_bound (x % 4294967296) (y / 4294967296) (by omega) (by omega) (by omega) (by omega)
  obtain ⟨s0, s1⟩ := prod_bound (x % 4294967296) (y % 4294967296) (by omega) (by omega) (by omega) (by omega)
  go_enter Tryz.func150, Tryz.ntmps150
  go_wp2_with fail
  have i1 : IsW (x / 4294967296 * (y / 4294967296)) (x % 4294967296 * (y % 4294967296)) (x / 4294967296 * (y / 4294967296) * 18446744073709551616 + x % 4294967296 * (y % 4294967296)) := ⟨⟨by omega, by omega⟩, ⟨by omega, by omega⟩, rfl⟩
  have i2 : IsW (x / 4294967296 * (y % 4294967296) / 4294967296) (x / 4294967296 * (y % 4294967296) % 4294967296 * 4294967296) ((x / 4294967296 * (y % 4294967296)) * 4294967296) := ⟨⟨by omega, by omega⟩, ⟨by omega, by omega⟩, by omega⟩
  have i3 : IsW (x % 4294967296 * (y / 4294967296) / 4294967296) (x % 4294967296 * (y / 4294967296) % 4294967296 * 4294967296) ((x % 4294967296 * (y / 4294967296)) * 4294967296) := ⟨⟨by omega, by omega⟩, ⟨by omega, by omega⟩, by omega⟩
  have hxy : Hid (x * y < 340282366920938463463374607431768211456) := by
    unfold Hid
    have h1 : x * y ≤ 18446744073709551615 * y := Int.mul_le_mul_of_nonneg_right hx1 hy0
    omega
  refine (plus_any _ _ _ _ _ _ i1 i2 (by have := HS.out; have := hxy.out; omega) _).mono ?_
  rintro e w1 ⟨h, l, rfl, hI, hB⟩
  have hb0 : Below w.heap.size w ((w.alloc (.cells #[.int .u64 0, .int .u64 0] 121)).alloc (.cells #[.int .u64 (x / 4294967296 * (y / 4294967296)), .int .u64 (x % 4294967296 * (y % 4294967296))] 121)) := ((Below.refl _ _).alloc (by simp) _).alloc (by simp) _
  have k0 : Hold w1 w.heap.size 0 0 := Hold.later ((Hold.new).later ((Below.refl _ _).alloc (Nat.le_refl _) _)) hB
  have k1 : Hold w1 (w.heap.size + 1) (x / 4294967296 * (y / 4294967296)) (x % 4294967296 * (y % 4294967296)) := by
    have := (Hold.new (w := w.alloc (.cells #[.int .u64 0, .int .u64 0] 121)) (h := x / 4294967296 * (y / 4294967296)) (l := x % 4294967296 * (y % 4294967296)) (t := 121)).later hB
    simpa using this
  have k0' := Hold.other k0 (c := w.heap.size + 1) (by omega) (.int .u64 h) (.int .u64 l)
  have k1' := Hold.set k1 h l
  obtain ⟨m0, m1, m2, m3, m4⟩ := id k1
  obtain ⟨n0, n1, n2, n3, n4⟩ := id k1'
  clear p0 p1 q0 q1 s0 s1
  go_wp2_with fail
  refine (plus_any _ _ _ _ _ _ hI i3 (by have := HS.out; have := hxy.out; omega) _).mono ?_
  rintro e w2 ⟨h2, l2, rfl, hI2, hB2⟩
  have k0'' := Hold.later k0' hB2
  obtain ⟨o0, o1, o2, o3, o4⟩ := id k0''
  obtain ⟨s0, s1, s2, s3, s4⟩ := Hold.set k0'' h2 l2
  go_wp2_with fail
  have e1 : x / 4294967296 * (y / 4294967296) * 18446744073709551616 + x % 4294967296 * (y % 4294967296) + x / 4294967296 * (y % 4294967296) * 4294967296 + x % 4294967296 * (y / 4294967296) * 4294967296 = x * y := HS.out
  rw [e1] at hI2
  refine bodyPost_ret (v := .agg #[_, _]) (by simp [results, Tryz.results150, go_sem, s1, s2]) rfl ⟨_, _, rfl, hI2, ?_⟩
  have c1 : Below w.heap.size w w1 := hb0.trans (hB.mono (by simp; omega))
  have c2 : Below w.heap.size w ((w1.setCell ⟨w.heap.size + 1, 0, none⟩ (.int .u64 h)).setCell ⟨w.heap.size + 1, 1, none⟩ (.int .u64 l)) := (c1.setCell (by simp) _).setCell (by simp) _
  have c3 : Below w.heap.size w w2 := c2.trans (hB2.mono c2.size)
  exact (c3.setCell (by simp) _).setCell (by simp) _

theorem Hold.set1 {w : World} {b : Nat} {h l : Int} (x : Hold w b h l) (l' : Int) : Hold (w.setCell ⟨b, 1, none⟩ (.int .u64 l')) b h l' := by
  obtain ⟨h0, h1, h2, h3, h4⟩ := x
  refine ⟨by simpa using h0, ?_, World.cell?_setCell_same _ _ _ h2, by simpa using h3, by simpa using h4⟩
  rw [World.cell?_setCell_other _ _ _ _ (by simp)]; exact h1
end Go.Proofs.YtfjefanhkbcfgaaGreatDoor
