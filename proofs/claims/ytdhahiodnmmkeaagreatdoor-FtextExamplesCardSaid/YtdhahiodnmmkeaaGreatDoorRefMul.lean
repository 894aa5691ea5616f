/- Contracts of the specification's products and quotients (louvreref01.Times, Divide, Nearest, Mul, Quo). -/
import Derived.Test.YtdhahiodnmmkeaaGreatDoorHold
import Derived.Test.YtdhahiodnmmkeaaGreatDoorRefMath
import Derived.Laws.ResultCell
namespace Go.Proofs.YtdhahiodnmmkeaaGreatDoor
open Go.RowKit
set_option maxHeartbeats 800000 in
theorem zck (x y : Int) (hx : InU x) (hy : InU y) (w : World) :
 Calls Tryz.prog 111 #[.int .u64 x, .int .u64 y] w fun e w' =>
  ∃ h l, e = .returned (.agg #[.int .u64 h, .int .u64 l]) ∧ IsW h l (x * y) ∧ Below w.heap.size w w' := by
 obtain ⟨hx0, hx1⟩ := hx
 obtain ⟨hy0, hy1⟩ := hy
 have HS := Lib.hid (zt9 (x := x) (y := y))
 obtain ⟨p0, p1⟩ := prod_bound (x / 4294967296) (y / 4294967296) (by omega) (by omega) (by omega) (by omega)
 obtain ⟨q0, q1⟩ := prod_bound (x / 4294967296) (y % 4294967296) (by omega) (by omega) (by omega) (by omega)
 obtain ⟨r0, r1⟩ := prod_bound (x % 4294967296) (y / 4294967296) (by omega) (by omega) (by omega) (by omega)
 obtain ⟨s0, s1⟩ := prod_bound (x % 4294967296) (y % 4294967296) (by omega) (by omega) (by omega) (by omega)
 go_enter Tryz.func111, Tryz.ntmps111
 go_wp2_with fail
 have i1 : IsW (x / 4294967296 * (y / 4294967296)) (x % 4294967296 * (y % 4294967296)) (x / 4294967296 * (y / 4294967296) * 18446744073709551616 + x % 4294967296 * (y % 4294967296)) := ⟨⟨by omega, by omega⟩, ⟨by omega, by omega⟩, rfl⟩
 have i2 : IsW (x / 4294967296 * (y % 4294967296) / 4294967296) (x / 4294967296 * (y % 4294967296) % 4294967296 * 4294967296) ((x / 4294967296 * (y % 4294967296)) * 4294967296) := ⟨⟨by omega, by omega⟩, ⟨by omega, by omega⟩, by omega⟩
 have i3 : IsW (x % 4294967296 * (y / 4294967296) / 4294967296) (x % 4294967296 * (y / 4294967296) % 4294967296 * 4294967296) ((x % 4294967296 * (y / 4294967296)) * 4294967296) := ⟨⟨by omega, by omega⟩, ⟨by omega, by omega⟩, by omega⟩
 have hxy : Hid (x * y < 340282366920938463463374607431768211456) := by
  unfold Hid
  have h1 : x * y ≤ 18446744073709551615 * y := Int.mul_le_mul_of_nonneg_right hx1 hy0
  omega
 refine (zbq _ _ _ _ _ _ i1 i2 (by have := HS.out; have := hxy.out; omega) _).mono ?_
 rintro e w1 ⟨h, l, rfl, hI, hB⟩
 have hb0 : Below w.heap.size w ((w.alloc (.cells #[.int .u64 0, .int .u64 0] 109)).alloc (.cells #[.int .u64 (x / 4294967296 * (y / 4294967296)), .int .u64 (x % 4294967296 * (y % 4294967296))] 109)) := ((Below.refl _ _).alloc (by simp) _).alloc (by simp) _
 have k0 : Hold w1 w.heap.size 0 0 := Hold.later ((Hold.new).later ((Below.refl _ _).alloc (Nat.le_refl _) _)) hB
 have k1 : Hold w1 (w.heap.size + 1) (x / 4294967296 * (y / 4294967296)) (x % 4294967296 * (y % 4294967296)) := by
  have := (Hold.new (w := w.alloc (.cells #[.int .u64 0, .int .u64 0] 109)) (h := x / 4294967296 * (y / 4294967296)) (l := x % 4294967296 * (y % 4294967296)) (t := 109)).later hB
  simpa using this
 have k0' := Hold.other k0 (c := w.heap.size + 1) (by omega) (.int .u64 h) (.int .u64 l)
 have k1' := Hold.set k1 h l
 obtain ⟨m0, m1, m2, m3, m4⟩ := id k1
 obtain ⟨n0, n1, n2, n3, n4⟩ := id k1'
 clear p0 p1 q0 q1 s0 s1
 go_wp2_with fail
 refine (zbq _ _ _ _ _ _ hI i3 (by have := HS.out; have := hxy.out; omega) _).mono ?_
 rintro e w2 ⟨h2, l2, rfl, hI2, hB2⟩
 have k0'' := Hold.later k0' hB2
 obtain ⟨o0, o1, o2, o3, o4⟩ := id k0''
 obtain ⟨s0, s1, s2, s3, s4⟩ := Hold.set k0'' h2 l2
 go_wp2_with fail
 have e1 : x / 4294967296 * (y / 4294967296) * 18446744073709551616 + x % 4294967296 * (y % 4294967296) + x / 4294967296 * (y % 4294967296) * 4294967296 + x % 4294967296 * (y / 4294967296) * 4294967296 = x * y := HS.out
 rw [e1] at hI2
 refine bodyPost_ret (v := .agg #[_, _]) (by simp [results, Tryz.results111, go_sem, s1, s2]) rfl ⟨_, _, rfl, hI2, ?_⟩
 have c1 : Below w.heap.size w w1 := hb0.trans (hB.mono (by simp; omega))
 have c2 : Below w.heap.size w ((w1.setCell ⟨w.heap.size + 1, 0, none⟩ (.int .u64 h)).setCell ⟨w.heap.size + 1, 1, none⟩ (.int .u64 l)) := (c1.setCell (by simp) _).setCell (by simp) _
 have c3 : Below w.heap.size w w2 := c2.trans (hB2.mono c2.size)
 exact (c3.setCell (by simp) _).setCell (by simp) _
theorem Hold.set1 {w : World} {b : Nat} {h l : Int} (x : Hold w b h l) (l' : Int) : Hold (w.setCell ⟨b, 1, none⟩ (.int .u64 l')) b h l' := by
 obtain ⟨h0, h1, h2, h3, h4⟩ := x
 refine ⟨by simpa using h0, ?_, World.cell?_setCell_same _ _ _ h2, by simpa using h3, by simpa using h4⟩
 rw [World.cell?_setCell_other _ _ _ _ (by simp)]; exact h1
end Go.Proofs.YtdhahiodnmmkeaaGreatDoor
