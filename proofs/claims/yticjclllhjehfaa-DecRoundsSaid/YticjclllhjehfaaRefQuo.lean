/- Contracts of the specification's products and quotients (louvreref01.Nearest, Mul, Quo), and the statement DecProducts. -/
import Derived.Test.YticjclllhjehfaaRefMul
import Derived.Test.YticjclllhjehfaaDecMul
namespace Go.Proofs.Yticjclllhjehfaa
open Go.RowKit

set_option maxHeartbeats 800000 in
theorem nearest_any (xh xl d n : Int) (x : IsW xh xl n) (hd : 1 ≤ d) (hd1 : d ≤ 18446744073709551615) (hs : n + d / 2 < 340282366920938463463374607431768211456) (w : World) :
    Calls Try.prog 36 #[.agg #[.int .u64 xh, .int .u64 xl], .int .u64 d] w fun e w' =>
      ∃ h l, e = .returned (.agg #[.int .u64 h, .int .u64 l]) ∧ IsW h l ((n + d / 2) / d) ∧ Below w.heap.size w w' := by
  have HX := Lib.hid x
  have HS := Lib.hid hs
  have hn := x.bd
  have m0 : 0 ≤ n % d := Int.emod_nonneg n (show d ≠ 0 by omega)
  have m1 : n % d < d := Int.emod_lt_of_pos n (show 0 < d by omega)
  have n0 : 0 ≤ n / d := Int.ediv_nonneg hn.1 (by omega)
  have n1 : (n + d / 2) / d ≤ n + d / 2 := Int.ediv_le_self _ (by omega)
  have hb0 : Below w.heap.size w ((w.alloc (.cells #[.int .u64 xh, .int .u64 xl] 34)).alloc (.cells #[.int .u64 0, .int .u64 0] 34)) := ((Below.refl _ _).alloc (by simp) _).alloc (by simp) _
  have k0 : Hold ((w.alloc (.cells #[.int .u64 xh, .int .u64 xl] 34)).alloc (.cells #[.int .u64 0, .int .u64 0] 34)) (w.heap.size + 1) 0 0 := by
    have := Hold.new (w := w.alloc (.cells #[.int .u64 xh, .int .u64 xl] 34)) (h := 0) (l := 0) (t := 34)
    simpa using this
  obtain ⟨r, HR⟩ : ∃ r, Hid (n % d = r) := ⟨_, rfl⟩
  rw [HR.out] at m0 m1
  have hup : Hid (d - r ≤ r → (n + d / 2) / d = n / d + 1) := by rw [← HR.out]; exact near_up hd
  have hdn : Hid (¬ d - r ≤ r → (n + d / 2) / d = n / d) := by rw [← HR.out]; exact near_dn hd
  clear x hs hn
  by_cases hc : d - r ≤ r
  · have e1 := Lib.hid (hup.out hc)
    rw [e1.out] at n1 ⊢
    go_enter Try.func36, Try.ntmps36
    go_wp2_with fail
    refine (divide_any _ _ _ _ HX.out hd hd1 _).mono ?_
    rintro e w1 ⟨h, l, rfl, hI, hB⟩
    rw [HR.out]
    have k1 := Hold.later k0 hB
    obtain ⟨u0, u1, u2, u3, u4⟩ := id k1
    have hw1 : Below w.heap.size w w1 := hb0.trans (hB.mono hb0.size)
    have q1 := Hold.new (w := w1) (h := h) (l := l) (t := 34)
    have k2 := Hold.later k1 ((Below.refl _ _).alloc (Nat.le_refl _) (.cells #[.int .u64 h, .int .u64 l] 34))
    go_wp2_with fail
    refine (plus_any _ _ _ _ _ _ hI (IsW.low (l := 1) (by unfold InU; omega)) (by have := HS.out; omega) _).mono ?_
    rintro e w2 ⟨h2, l2, rfl, hI2, hB2⟩
    have k3 := Hold.later k2 hB2
    have q2 := Hold.later q1 hB2
    have hw2 : Below w.heap.size w w2 := (hw1.alloc hw1.size (.cells #[.int .u64 h, .int .u64 l] 34)).trans (hB2.mono (by have := hw1.size; simp; omega))
    have hlt := hw1.size
    obtain ⟨v0, v1, v2, v3, v4⟩ := id q2
    have q3 := Hold.set q2 h2 l2
    obtain ⟨y0, y1, y2, y3, y4⟩ := id q3
    have k4 := Hold.other k3 (c := w1.heap.size) (by omega) (.int .u64 h2) (.int .u64 l2)
    obtain ⟨z0, z1, z2, z3, z4⟩ := id k4
    obtain ⟨s0, s1, s2, s3, s4⟩ := Hold.set k4 h2 l2
    go_wp2_with fail
    refine bodyPost_ret (v := .agg #[.int .u64 h2, .int .u64 l2]) (by simp [results, Try.results36, go_sem, s1, s2]) rfl ⟨_, _, rfl, hI2, (((hw2.setCell (by simp; omega) _).setCell (by simp; omega) _).setCell (by simp) _).setCell (by simp) _⟩
  · have e1 := Lib.hid (hdn.out hc)
    rw [e1.out] at n1 ⊢
    go_enter Try.func36, Try.ntmps36
    go_wp2_with fail
    refine (divide_any _ _ _ _ HX.out hd hd1 _).mono ?_
    rintro e w1 ⟨h, l, rfl, hI, hB⟩
    rw [HR.out]
    have k1 := Hold.later k0 hB
    obtain ⟨u0, u1, u2, u3, u4⟩ := id k1
    have hw1 : Below w.heap.size w w1 := hb0.trans (hB.mono hb0.size)
    obtain ⟨s0, s1, s2, s3, s4⟩ := Hold.later (Hold.set k1 h l) ((Below.refl _ _).alloc (Nat.le_refl _) (.cells #[.int .u64 h, .int .u64 l] 34))
    go_wp2_with fail
    have hw2 : Below w.heap.size w ((w1.setCell ⟨w.heap.size + 1, 0, none⟩ (.int .u64 h)).setCell ⟨w.heap.size + 1, 1, none⟩ (.int .u64 l)) := (hw1.setCell (by simp) _).setCell (by simp) _
    refine bodyPost_ret (v := .agg #[.int .u64 h, .int .u64 l]) (by simp [results, Try.results36, go_sem, s1, s2]) rfl ⟨_, _, rfl, hI, hw2.alloc hw2.size _⟩

set_option maxHeartbeats 400000 in
theorem rmul_any (a b : Int) (ha : InI a) (hb : InI b) (w : World) :
    Calls Try.prog 13 #[.int .i64 a, .int .i64 b] w fun e w' => e = .returned (.tuple #[.int .i64 (resV (mulZ a b)), .bool (resB (mulZ a b))]) ∧ Below w.heap.size w w' := by
  have HA := Lib.hid ha
  have HB := Lib.hid hb
  have sa := Lib.hid (size_bd' ha)
  have sb := Lib.hid (size_bd' hb)
  have sm := Lib.hid (size_mul_bd ha hb)
  clear ha hb
  go_enter Try.func13, Try.ntmps13
  go_wp2_with fail
  refine (rsize_any a HA.out _).mono ?_
  rintro e w' ⟨rfl, rfl⟩
  go_wp2_with fail
  refine (rsize_any b HB.out _).mono ?_
  rintro e w' ⟨rfl, rfl⟩
  go_wp2_with fail
  refine (times_any _ _ (by have := sa.out; unfold InU; omega) (by have := sb.out; unfold InU; omega) _).mono ?_
  rintro e w1 ⟨h, l, rfl, hI, hB1⟩
  go_wp2_with fail
  refine (nearest_any _ _ 10000 _ hI (by omega) (by omega) (by have := sm.out; omega) _).mono ?_
  rintro e w2 ⟨h2, l2, rfl, hI2, hB2⟩
  go_wp2_with fail
  refine (signed_any _ _ _ hI2 _ _).mono ?_
  rintro e w3 ⟨rfl, hB3⟩
  go_wp2_with fail
  go_ret2
  exact ⟨rfl, Below.next (Below.next hB1 hB2) hB3⟩
set_option maxHeartbeats 400000 in
theorem rquo_any (a b : Int) (ha : InI a) (hb : InI b) (hb0 : ¬ b = 0) (w : World) :
    Calls Try.prog 15 #[.int .i64 a, .int .i64 b] w fun e w' => e = .returned (.tuple #[.int .i64 (resV (quoZ a b)), .bool (resB (quoZ a b))]) ∧ Below w.heap.size w w' := by
  have HA := Lib.hid ha
  have HB := Lib.hid hb
  have sa := Lib.hid (size_bd' ha)
  have sb := Lib.hid (size_bd' hb)
  have sb1 : Hid (1 ≤ sizeOf' b) := by unfold Hid sizeOf'; split <;> omega
  clear ha hb
  go_enter Try.func15, Try.ntmps15
  go_wp2_with fail
  refine (rsize_any a HA.out _).mono ?_
  rintro e w' ⟨rfl, rfl⟩
  go_wp2_with fail
  refine (times_any _ _ (by have := sa.out; unfold InU; omega) (by unfold InU; omega) _).mono ?_
  rintro e w1 ⟨h, l, rfl, hI, hB1⟩
  go_wp2_with fail
  refine (rsize_any b HB.out _).mono ?_
  rintro e w' ⟨rfl, rfl⟩
  go_wp2_with fail
  refine (nearest_any _ _ (sizeOf' b) _ hI sb1.out (by have := sb.out; omega) (by have := sa.out; have := sb.out; omega) _).mono ?_
  rintro e w2 ⟨h2, l2, rfl, hI2, hB2⟩
  go_wp2_with fail
  refine (signed_any _ _ _ hI2 _ _).mono ?_
  rintro e w3 ⟨rfl, hB3⟩
  go_wp2_with fail
  go_ret2
  exact ⟨rfl, Below.next (Below.next hB1 hB2) hB3⟩
set_option maxHeartbeats 400000 in
theorem rquo_zero (a : Int) (w : World) :
    Calls Try.prog 15 #[.int .i64 a, .int .i64 0] w fun e w' => e = .returned (.tuple #[.int .i64 0, .bool false]) ∧ w = w' := by
  go_enter Try.func15, Try.ntmps15
  go_wp2_with fail
  go_ret2
  exact ⟨rfl, rfl⟩
theorem below_drewN (w : World) (k : Nat) : Below w.heap.size w (w.drewN k) := ⟨rfl, rfl, rfl, Nat.le_refl _, fun _ _ => rfl⟩
set_option maxHeartbeats 800000 in
theorem decProducts_any (a b : Int) (ha : InI a) (hb : InI b) (w : World) :
    Calls Try.prog 4 #[.int .i64 a, .int .i64 b] w fun e w' => e = .returned (.bool true) ∧ Below w.heap.size w w' := by
  have HA := Lib.hid ha
  have HB := Lib.hid hb
  clear ha hb
  go_enter Try.func4, Try.ntmps4
  go_wp2_with fail
  refine (mul_any _ _ HA.out HB.out _).mono ?_
  rintro e w1 ⟨rfl, k, rfl⟩
  go_wp2_with fail
  refine (rmul_any _ _ HA.out HB.out _).mono ?_
  rintro e w1 ⟨rfl, hB1⟩
  by_cases h0 : b = 0
  · subst h0
    go_wp2_with fail
    refine (quo_zero _ _).mono ?_
    rintro e w2 ⟨rfl, rfl⟩
    go_wp2_with fail
    refine (rquo_zero _ _).mono ?_
    rintro e w2 ⟨rfl, rfl⟩
    go_wp2_with fail
    go_ret
    exact ⟨rfl, Below.next (below_drewN _ _) hB1⟩
  · have hne := Lib.hid h0
    go_wp2_with fail
    refine (quo_any _ _ HA.out HB.out hne.out _).mono ?_
    rintro e w2 ⟨rfl, k2, rfl⟩
    go_wp2_with fail
    refine (rquo_any _ _ HA.out HB.out hne.out _).mono ?_
    rintro e w3 ⟨rfl, hB3⟩
    go_wp2_with fail
    go_ret
    exact ⟨rfl, Below.next (Below.next (Below.next (below_drewN _ _) hB1) (below_drewN _ _)) hB3⟩
end Go.Proofs.Yticjclllhjehfaa
