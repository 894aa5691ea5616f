/- The contract of the specification's Nearest. -/
import Derived.Test.YtdanbabamcdebaaGreatDoorRefMul
namespace Go.Proofs.YtdanbabamcdebaaGreatDoor
open Go.RowKit

set_option maxHeartbeats 800000 in
theorem nearest_any (xh xl d n : Int) (x : IsW xh xl n) (hd : 1 ≤ d) (hd1 : d ≤ 18446744073709551615) (hs : n + d / 2 < 340282366920938463463374607431768211456) (w : World) :
    Calls Tryz.prog 91 #[.agg #[.int .u64 xh, .int .u64 xl], .int .u64 d] w fun e w' =>
      ∃ h l, e = .returned (.agg #[.int .u64 h, .int .u64 l]) ∧ IsW h l ((n + d / 2) / d) ∧ Below w.heap.size w w' := by
  have HX := Lib.hid x
  have HS := Lib.hid hs
  have hn := x.bd
  have m0 : 0 ≤ n % d := Int.emod_nonneg n (show d ≠ 0 by omega)
  have m1 : n % d < d := Int.emod_lt_of_pos n (show 0 < d by omega)
  have n0 : 0 ≤ n / d := Int.ediv_nonneg hn.1 (by omega)
  have n1 : (n + d / 2) / d ≤ n + d / 2 := Int.ediv_le_self _ (by omega)
  have hb0 : Below w.heap.size w ((w.alloc (.cells #[.int .u64 xh, .int .u64 xl] 85)).alloc (.cells #[.int .u64 0, .int .u64 0] 85)) := ((Below.refl _ _).alloc (by simp) _).alloc (by simp) _
  have k0 : Hold ((w.alloc (.cells #[.int .u64 xh, .int .u64 xl] 85)).alloc (.cells #[.int .u64 0, .int .u64 0] 85)) (w.heap.size + 1) 0 0 := by
    have := Hold.new (w := w.alloc (.cells #[.int .u64 xh, .int .u64 xl] 85)) (h := 0) (l := 0) (t := 85)
    simpa using this
  obtain ⟨r, HR⟩ : ∃ r, Hid (n % d = r) := ⟨_, rfl⟩
  rw [HR.out] at m0 m1
  have hup : Hid (d - r ≤ r → (n + d / 2) / d = n / d + 1) := by rw [← HR.out]; exact near_up hd
  have hdn : Hid (¬ d - r ≤ r → (n + d / 2) / d = n / d) := by rw [← HR.out]; exact near_dn hd
  clear x hs hn
  by_cases hc : d - r ≤ r
  · have e1 := Lib.hid (hup.out hc)
    rw [e1.out] at n1 ⊢
    go_enter Tryz.func91, Tryz.ntmps91
    go_wp2_with fail
    refine (divide_any _ _ _ _ HX.out hd hd1 _).mono ?_
    rintro e w1 ⟨h, l, rfl, hI, hB⟩
    rw [HR.out]
    have k1 := Hold.later k0 hB
    obtain ⟨u0, u1, u2, u3, u4⟩ := id k1
    have hw1 : Below w.heap.size w w1 := hb0.trans (hB.mono hb0.size)
    have q1 := Hold.new (w := w1) (h := h) (l := l) (t := 85)
    have k2 := Hold.later k1 ((Below.refl _ _).alloc (Nat.le_refl _) (.cells #[.int .u64 h, .int .u64 l] 85))
    go_wp2_with fail
    refine (plus_any _ _ _ _ _ _ hI (IsW.low (l := 1) (by unfold InU; omega)) (by have := HS.out; omega) _).mono ?_
    rintro e w2 ⟨h2, l2, rfl, hI2, hB2⟩
    have k3 := Hold.later k2 hB2
    have q2 := Hold.later q1 hB2
    have hw2 : Below w.heap.size w w2 := (hw1.alloc hw1.size (.cells #[.int .u64 h, .int .u64 l] 85)).trans (hB2.mono (by have := hw1.size; simp; omega))
    have hlt := hw1.size
    obtain ⟨v0, v1, v2, v3, v4⟩ := id q2
    have q3 := Hold.set q2 h2 l2
    obtain ⟨y0, y1, y2, y3, y4⟩ := id q3
    have k4 := Hold.other k3 (c := w1.heap.size) (by omega) (.int .u64 h2) (.int .u64 l2)
    obtain ⟨z0, z1, z2, z3, z4⟩ := id k4
    obtain ⟨s0, s1, s2, s3, s4⟩ := Hold.set k4 h2 l2
    go_wp2_with fail
    refine bodyPost_ret (v := .agg #[.int .u64 h2, .int .u64 l2]) (by simp [results, Tryz.results91, go_sem, s1, s2]) rfl ⟨_, _, rfl, hI2, (((hw2.setCell (by simp; omega) _).setCell (by simp; omega) _).setCell (by simp) _).setCell (by simp) _⟩
  · have e1 := Lib.hid (hdn.out hc)
    rw [e1.out] at n1 ⊢
    go_enter Tryz.func91, Tryz.ntmps91
    go_wp2_with fail
    refine (divide_any _ _ _ _ HX.out hd hd1 _).mono ?_
    rintro e w1 ⟨h, l, rfl, hI, hB⟩
    rw [HR.out]
    have k1 := Hold.later k0 hB
    obtain ⟨u0, u1, u2, u3, u4⟩ := id k1
    have hw1 : Below w.heap.size w w1 := hb0.trans (hB.mono hb0.size)
    obtain ⟨s0, s1, s2, s3, s4⟩ := Hold.later (Hold.set k1 h l) ((Below.refl _ _).alloc (Nat.le_refl _) (.cells #[.int .u64 h, .int .u64 l] 85))
    go_wp2_with fail
    have hw2 : Below w.heap.size w ((w1.setCell ⟨w.heap.size + 1, 0, none⟩ (.int .u64 h)).setCell ⟨w.heap.size + 1, 1, none⟩ (.int .u64 l)) := (hw1.setCell (by simp) _).setCell (by simp) _
    refine bodyPost_ret (v := .agg #[.int .u64 h, .int .u64 l]) (by simp [results, Tryz.results91, go_sem, s1, s2]) rfl ⟨_, _, rfl, hI, hw2.alloc hw2.size _⟩
end Go.Proofs.YtdanbabamcdebaaGreatDoor
