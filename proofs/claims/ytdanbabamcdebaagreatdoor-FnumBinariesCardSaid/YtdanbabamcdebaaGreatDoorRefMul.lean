/- Contracts of the specification's products and quotients (louvreref01.Times, Divide, Nearest, Mul, Quo). -/
import Derived.Test.YtdanbabamcdebaaGreatDoorHold
import Derived.Test.YtdanbabamcdebaaGreatDoorRefMath
import Derived.Laws.ResultCell
namespace Go.Proofs.YtdanbabamcdebaaGreatDoor
open Go.RowKit

set_option maxHeartbeats 400000 in
theorem plusm_any (a b c d n m : Int) (x : IsW a b n) (y : IsW c d m) (w : World) :
    Calls Tryz.prog 96 #[.agg #[.int .u64 a, .int .u64 b], .agg #[.int .u64 c, .int .u64 d]] w fun e w' =>
      ∃ h l, e = .returned (.agg #[.int .u64 h, .int .u64 l]) ∧ IsW h l ((n + m) % 340282366920938463463374607431768211456) ∧ Below w.heap.size w w' := by
  go_enter Tryz.func96, Tryz.ntmps96
  go_wp2
  · exact bodyPost_ret (v := .agg #[_, _]) (by simp [results, Tryz.results96, go_sem]) rfl ⟨_, _, rfl, x.plus1m y (by assumption), (((Below.refl _ _).alloc (Nat.le_refl _) _).alloc (by simp) _).alloc (by simp; omega) _⟩
  · exact bodyPost_ret (v := .agg #[_, _]) (by simp [results, Tryz.results96, go_sem]) rfl ⟨_, _, rfl, x.plus2m y (by assumption), (((Below.refl _ _).alloc (Nat.le_refl _) _).alloc (by simp) _).alloc (by simp; omega) _⟩

set_option maxHeartbeats 800000 in
theorem times_any (x y : Int) (hx : InU x) (hy : InU y) (w : World) :
    Calls Tryz.prog 92 #[.int .u64 x, .int .u64 y] w fun e w' =>
      ∃ h l, e = .returned (.agg #[.int .u64 h, .int .u64 l]) ∧ IsW h l (x * y) ∧ Below w.heap.size w w' := by
  obtain ⟨hx0, hx1⟩ := hx
  obtain ⟨hy0, hy1⟩ := hy
  have HS := Lib.hid (times_sum (x := x) (y := y))
  obtain ⟨p0, p1⟩ := prod_bound (x / 4294967296) (y / 4294967296) (by omega) (by omega) (by omega) (by omega)
  obtain ⟨q0, q1⟩ := prod_bound (x / 4294967296) (y % 4294967296) (by omega) (by omega) (by omega) (by omega)
  obtain ⟨r0, r1⟩ := prod_bound (x % 4294967296) (y / 4294967296) (by omega) (by omega) (by omega) (by omega)
  obtain ⟨s0, s1⟩ := prod_bound (x % 4294967296) (y % 4294967296) (by omega) (by omega) (by omega) (by omega)
  go_enter Tryz.func92, Tryz.ntmps92
  go_wp2_with fail
  have i1 : IsW (x / 4294967296 * (y / 4294967296)) (x % 4294967296 * (y % 4294967296)) (x / 4294967296 * (y / 4294967296) * 18446744073709551616 + x % 4294967296 * (y % 4294967296)) := ⟨⟨by omega, by omega⟩, ⟨by omega, by omega⟩, rfl⟩
  have i2 : IsW (x / 4294967296 * (y % 4294967296) / 4294967296) (x / 4294967296 * (y % 4294967296) % 4294967296 * 4294967296) ((x / 4294967296 * (y % 4294967296)) * 4294967296) := ⟨⟨by omega, by omega⟩, ⟨by omega, by omega⟩, by omega⟩
  have i3 : IsW (x % 4294967296 * (y / 4294967296) / 4294967296) (x % 4294967296 * (y / 4294967296) % 4294967296 * 4294967296) ((x % 4294967296 * (y / 4294967296)) * 4294967296) := ⟨⟨by omega, by omega⟩, ⟨by omega, by omega⟩, by omega⟩
  have hxy : Hid (x * y < 340282366920938463463374607431768211456) := by
    unfold Hid
    have h1 : x * y ≤ 18446744073709551615 * y := Int.mul_le_mul_of_nonneg_right hx1 hy0
    omega
  refine (plus_any _ _ _ _ _ _ i1 i2 (by have := HS.out; have := hxy.out; omega) _).mono ?_
  rintro e w1 ⟨h, l, rfl, hI, hB⟩
  have hb0 : Below w.heap.size w ((w.alloc (.cells #[.int .u64 0, .int .u64 0] 85)).alloc (.cells #[.int .u64 (x / 4294967296 * (y / 4294967296)), .int .u64 (x % 4294967296 * (y % 4294967296))] 85)) := ((Below.refl _ _).alloc (by simp) _).alloc (by simp) _
  have k0 : Hold w1 w.heap.size 0 0 := Hold.later ((Hold.new).later ((Below.refl _ _).alloc (Nat.le_refl _) _)) hB
  have k1 : Hold w1 (w.heap.size + 1) (x / 4294967296 * (y / 4294967296)) (x % 4294967296 * (y % 4294967296)) := by
    have := (Hold.new (w := w.alloc (.cells #[.int .u64 0, .int .u64 0] 85)) (h := x / 4294967296 * (y / 4294967296)) (l := x % 4294967296 * (y % 4294967296)) (t := 85)).later hB
    simpa using this
  have k0' := Hold.other k0 (c := w.heap.size + 1) (by omega) (.int .u64 h) (.int .u64 l)
  have k1' := Hold.set k1 h l
  obtain ⟨m0, m1, m2, m3, m4⟩ := id k1
  obtain ⟨n0, n1, n2, n3, n4⟩ := id k1'
  clear p0 p1 q0 q1 s0 s1
  go_wp2_with fail
  refine (plus_any _ _ _ _ _ _ hI i3 (by have := HS.out; have := hxy.out; omega) _).mono ?_
  rintro e w2 ⟨h2, l2, rfl, hI2, hB2⟩
  have k0'' := Hold.later k0' hB2
  obtain ⟨o0, o1, o2, o3, o4⟩ := id k0''
  obtain ⟨s0, s1, s2, s3, s4⟩ := Hold.set k0'' h2 l2
  go_wp2_with fail
  have e1 : x / 4294967296 * (y / 4294967296) * 18446744073709551616 + x % 4294967296 * (y % 4294967296) + x / 4294967296 * (y % 4294967296) * 4294967296 + x % 4294967296 * (y / 4294967296) * 4294967296 = x * y := HS.out
  rw [e1] at hI2
  refine bodyPost_ret (v := .agg #[_, _]) (by simp [results, Tryz.results92, go_sem, s1, s2]) rfl ⟨_, _, rfl, hI2, ?_⟩
  have c1 : Below w.heap.size w w1 := hb0.trans (hB.mono (by simp; omega))
  have c2 : Below w.heap.size w ((w1.setCell ⟨w.heap.size + 1, 0, none⟩ (.int .u64 h)).setCell ⟨w.heap.size + 1, 1, none⟩ (.int .u64 l)) := (c1.setCell (by simp) _).setCell (by simp) _
  have c3 : Below w.heap.size w w2 := c2.trans (hB2.mono c2.size)
  exact (c3.setCell (by simp) _).setCell (by simp) _

theorem Hold.set1 {w : World} {b : Nat} {h l : Int} (x : Hold w b h l) (l' : Int) : Hold (w.setCell ⟨b, 1, none⟩ (.int .u64 l')) b h l' := by
  obtain ⟨h0, h1, h2, h3, h4⟩ := x
  refine ⟨by simpa using h0, ?_, World.cell?_setCell_same _ _ _ h2, by simpa using h3, by simpa using h4⟩
  rw [World.cell?_setCell_other _ _ _ _ (by simp)]; exact h1
theorem Hold.other1 {w : World} {b c : Nat} {h l : Int} (x : Hold w b h l) (hne : c ≠ b) (l' : Value) : Hold (w.setCell ⟨c, 1, none⟩ l') b h l := by
  obtain ⟨h0, h1, h2, h3, h4⟩ := x
  refine ⟨by simpa using h0, ?_, ?_, by simpa using h3, by simpa using h4⟩ <;>
  · rw [World.cell?_setCell_other _ _ _ _ (fun e => hne (congrArg Addr.block e))]; assumption

set_option maxRecDepth 100000 in
set_option maxHeartbeats 1600000 in
theorem divide_any (xh xl d n : Int) (x : IsW xh xl n) (hd : 1 ≤ d) (hd1 : d ≤ 18446744073709551615) (w : World) :
    Calls Tryz.prog 123 #[.agg #[.int .u64 xh, .int .u64 xl], .int .u64 d] w fun e w' =>
      ∃ h l, e = .returned (.tuple #[.agg #[.int .u64 h, .int .u64 l], .int .u64 (n % d)]) ∧ IsW h l (n / d) ∧ Below w.heap.size w w' := by
  have q0 : Hold (((w.alloc (.cells #[.int .u64 xh, .int .u64 xl] 85)).alloc (.cells #[.int .u64 0, .int .u64 0] 85)).alloc (.cells #[.int .u64 0, .int .u64 0] 85)) w.heap.size xh xl :=
    (Hold.new.later ((Below.refl _ _).alloc (by simp) _)).later ((Below.refl _ _).alloc (by simp) _)
  have q1 : Hold (((w.alloc (.cells #[.int .u64 xh, .int .u64 xl] 85)).alloc (.cells #[.int .u64 0, .int .u64 0] 85)).alloc (.cells #[.int .u64 0, .int .u64 0] 85)) (w.heap.size + 1) 0 0 := by
    have := (Hold.new (w := w.alloc (.cells #[.int .u64 xh, .int .u64 xl] 85)) (h := 0) (l := 0) (t := 85)).later ((Below.refl _ _).alloc (Nat.le_refl _) (.cells #[.int .u64 0, .int .u64 0] 85))
    simpa using this
  have q2 : Hold (((w.alloc (.cells #[.int .u64 xh, .int .u64 xl] 85)).alloc (.cells #[.int .u64 0, .int .u64 0] 85)).alloc (.cells #[.int .u64 0, .int .u64 0] 85)) (w.heap.size + 1 + 1) 0 0 := by
    have := Hold.new (w := (w.alloc (.cells #[.int .u64 xh, .int .u64 xl] 85)).alloc (.cells #[.int .u64 0, .int .u64 0] 85)) (h := 0) (l := 0) (t := 85)
    simpa using this
  have hb0 : Below w.heap.size w (((w.alloc (.cells #[.int .u64 xh, .int .u64 xl] 85)).alloc (.cells #[.int .u64 0, .int .u64 0] 85)).alloc (.cells #[.int .u64 0, .int .u64 0] 85)) := (((Below.refl _ _).alloc (by simp) _).alloc (by simp) _).alloc (by simp; omega) _
  have hn := x.bd
  go_enter Tryz.func123, Tryz.ntmps123
  go_wp2_with fail
  go_loopw [7, 8] (fun r i wr => ∃ (k : Nat) (ah al bh bl ρ : Int), k ≤ 128 ∧ i = .int .i64 k ∧ r = .int .u64 ρ ∧ Hold wr w.heap.size ah al ∧ Hold wr (w.heap.size + 1 + 1) bh bl ∧ Hold wr (w.heap.size + 1) 0 0 ∧ Below w.heap.size w wr ∧ Dv n d k ah al bh bl ρ) (fun _ i _ => 128 - (intOf i).toNat)
  case atStart => exact ⟨0, xh, xl, 0, 0, 0, by omega, rfl, rfl, q0, q2, q1, hb0, Dv.start x⟩
  case round =>
    rename_i wr
    clear q0 q1 q2 hb0
    obtain ⟨k, ah, al, bh, bl, ρ, hk, rfl, rfl, ha, hb, hr, hB, hD⟩ := hrel
    obtain ⟨r0, r1⟩ := hD.rbd hd
    obtain ⟨X, Q, hX, hQ⟩ := hD.xbd
    have hah : 0 ≤ ah ∧ ah ≤ 18446744073709551615 := hX.1
    obtain ⟨u0, u1, u2, u3, u4⟩ := id ha
    obtain ⟨d0, d1, d2, d3, d4⟩ := id hb
    by_cases hlt : k < 128
    · have hbit : 0 ≤ ah / 9223372036854775808 ∧ ah / 9223372036854775808 ≤ 1 := by omega
      obtain ⟨hbit0, hbit1⟩ := hbit
      by_cases hR : d ≤ ρ * 2 + ah / 9223372036854775808
      · by_cases hc : ρ < 9223372036854775808
        · have hc1 : (ρ / 9223372036854775808 == 1) = false := by rw [beq_eq_false_iff_ne]; omega
          go_wp2_with fail
          refine (plusm_any _ _ _ _ _ _ hX hX _).mono ?_
          rintro e w1 ⟨h, l, rfl, hI, hB1⟩
          have ha1 := Hold.set (Hold.later ha hB1) h l
          have hb1 := Hold.other (Hold.later hb hB1) (c := w.heap.size) (by omega) (.int .u64 h) (.int .u64 l)
          have hr1 := Hold.other (Hold.later hr hB1) (c := w.heap.size) (by omega) (.int .u64 h) (.int .u64 l)
          have hw1 : Below w.heap.size w ((w1.setCell ⟨w.heap.size, 0, none⟩ (.int .u64 h)).setCell ⟨w.heap.size, 1, none⟩ (.int .u64 l)) := ((hB.trans (hB1.mono hB.size)).setCell (by simp) _).setCell (by simp) _
          obtain ⟨t0, t1, t2, t3, t4⟩ := Hold.later ha hB1
          obtain ⟨v0, v1, v2, v3, v4⟩ := id hb1
          clear u0 u1 u2 u3 u4 d0 d1 d2 d3 d4
          go_wp2_with fail
          refine (plusm_any _ _ _ _ _ _ hQ hQ _).mono ?_
          rintro e w2 ⟨h2, l2, rfl, hI2, hB2⟩
          have ha2 := Hold.other (Hold.later ha1 hB2) (c := w.heap.size + 1 + 1) (by omega) (.int .u64 h2) (.int .u64 l2)
          have hb2 := Hold.set (Hold.later hb1 hB2) h2 l2
          have hr2 := Hold.other (Hold.later hr1 hB2) (c := w.heap.size + 1 + 1) (by omega) (.int .u64 h2) (.int .u64 l2)
          have hw2 : Below w.heap.size w ((w2.setCell ⟨w.heap.size + 1 + 1, 0, none⟩ (.int .u64 h2)).setCell ⟨w.heap.size + 1 + 1, 1, none⟩ (.int .u64 l2)) := ((hw1.trans (hB2.mono hw1.size)).setCell (by simp; omega) _).setCell (by simp; omega) _
          obtain ⟨y0, y1, y2, y3, y4⟩ := Hold.later hb1 hB2
          obtain ⟨z0, z1, z2, z3, z4⟩ := id hb2
          clear t0 t1 t2 t3 t4 v0 v1 v2 v3 v4
          obtain ⟨el0, el1⟩ := IsW.evl hQ hI2
          go_wp2_with fail
          go_roundw
          case rel => exact ⟨k + 1, h, l, h2, l2 + 1, _, by omega, by go_num, rfl, Hold.other1 ha2 (by omega) _, Hold.set1 hb2 _, Hold.other1 hr2 (by omega) _, hw2.setCell (by simp; omega) _, Dv.next hn.2 hn.1 hlt hd 1 hD (IsW.sh hX hI) (IsW.dbl1 hQ hI2) ⟨by omega, by omega⟩ (by omega) (by omega)⟩
          case measure => simp [intOf]; omega
        · have hc1 : (ρ / 9223372036854775808 == 1) = true := by rw [beq_iff_eq]; omega
          have hv : Hid (IntKind.u64.wrap (IntKind.u64.wrap (IntKind.u64.wrap (ρ * 2) + ah / 9223372036854775808) - d) = ρ * 2 + ah / 9223372036854775808 - d) := by unfold Hid; simp only [wrap_u64]; omega
          go_wp2_with fail
          refine (plusm_any _ _ _ _ _ _ hX hX _).mono ?_
          rintro e w1 ⟨h, l, rfl, hI, hB1⟩
          have ha1 := Hold.set (Hold.later ha hB1) h l
          have hb1 := Hold.other (Hold.later hb hB1) (c := w.heap.size) (by omega) (.int .u64 h) (.int .u64 l)
          have hr1 := Hold.other (Hold.later hr hB1) (c := w.heap.size) (by omega) (.int .u64 h) (.int .u64 l)
          have hw1 : Below w.heap.size w ((w1.setCell ⟨w.heap.size, 0, none⟩ (.int .u64 h)).setCell ⟨w.heap.size, 1, none⟩ (.int .u64 l)) := ((hB.trans (hB1.mono hB.size)).setCell (by simp) _).setCell (by simp) _
          obtain ⟨t0, t1, t2, t3, t4⟩ := Hold.later ha hB1
          obtain ⟨v0, v1, v2, v3, v4⟩ := id hb1
          clear u0 u1 u2 u3 u4 d0 d1 d2 d3 d4
          go_wp2_with fail
          refine (plusm_any _ _ _ _ _ _ hQ hQ _).mono ?_
          rintro e w2 ⟨h2, l2, rfl, hI2, hB2⟩
          have ha2 := Hold.other (Hold.later ha1 hB2) (c := w.heap.size + 1 + 1) (by omega) (.int .u64 h2) (.int .u64 l2)
          have hb2 := Hold.set (Hold.later hb1 hB2) h2 l2
          have hr2 := Hold.other (Hold.later hr1 hB2) (c := w.heap.size + 1 + 1) (by omega) (.int .u64 h2) (.int .u64 l2)
          have hw2 : Below w.heap.size w ((w2.setCell ⟨w.heap.size + 1 + 1, 0, none⟩ (.int .u64 h2)).setCell ⟨w.heap.size + 1 + 1, 1, none⟩ (.int .u64 l2)) := ((hw1.trans (hB2.mono hw1.size)).setCell (by simp; omega) _).setCell (by simp; omega) _
          obtain ⟨y0, y1, y2, y3, y4⟩ := Hold.later hb1 hB2
          obtain ⟨z0, z1, z2, z3, z4⟩ := id hb2
          clear t0 t1 t2 t3 t4 v0 v1 v2 v3 v4
          obtain ⟨el0, el1⟩ := IsW.evl hQ hI2
          go_wp2_with fail
          go_roundw
          case rel => exact ⟨k + 1, h, l, h2, l2 + 1, _, by omega, by go_num, congrArg (Value.int .u64) hv.out, Hold.other1 ha2 (by omega) _, Hold.set1 hb2 _, Hold.other1 hr2 (by omega) _, hw2.setCell (by simp; omega) _, Dv.next hn.2 hn.1 hlt hd 1 hD (IsW.sh hX hI) (IsW.dbl1 hQ hI2) ⟨by omega, by omega⟩ (by omega) (by omega)⟩
          case measure => simp [intOf]; omega
      · have hc1 : (ρ / 9223372036854775808 == 1) = false := by rw [beq_eq_false_iff_ne]; omega
        go_wp2_with fail
        refine (plusm_any _ _ _ _ _ _ hX hX _).mono ?_
        rintro e w1 ⟨h, l, rfl, hI, hB1⟩
        have ha1 := Hold.set (Hold.later ha hB1) h l
        have hb1 := Hold.other (Hold.later hb hB1) (c := w.heap.size) (by omega) (.int .u64 h) (.int .u64 l)
        have hr1 := Hold.other (Hold.later hr hB1) (c := w.heap.size) (by omega) (.int .u64 h) (.int .u64 l)
        have hw1 : Below w.heap.size w ((w1.setCell ⟨w.heap.size, 0, none⟩ (.int .u64 h)).setCell ⟨w.heap.size, 1, none⟩ (.int .u64 l)) := ((hB.trans (hB1.mono hB.size)).setCell (by simp) _).setCell (by simp) _
        obtain ⟨t0, t1, t2, t3, t4⟩ := Hold.later ha hB1
        obtain ⟨v0, v1, v2, v3, v4⟩ := id hb1
        clear u0 u1 u2 u3 u4 d0 d1 d2 d3 d4
        go_wp2_with fail
        refine (plusm_any _ _ _ _ _ _ hQ hQ _).mono ?_
        rintro e w2 ⟨h2, l2, rfl, hI2, hB2⟩
        have ha2 := Hold.other (Hold.later ha1 hB2) (c := w.heap.size + 1 + 1) (by omega) (.int .u64 h2) (.int .u64 l2)
        have hb2 := Hold.set (Hold.later hb1 hB2) h2 l2
        have hr2 := Hold.other (Hold.later hr1 hB2) (c := w.heap.size + 1 + 1) (by omega) (.int .u64 h2) (.int .u64 l2)
        have hw2 : Below w.heap.size w ((w2.setCell ⟨w.heap.size + 1 + 1, 0, none⟩ (.int .u64 h2)).setCell ⟨w.heap.size + 1 + 1, 1, none⟩ (.int .u64 l2)) := ((hw1.trans (hB2.mono hw1.size)).setCell (by simp; omega) _).setCell (by simp; omega) _
        obtain ⟨y0, y1, y2, y3, y4⟩ := Hold.later hb1 hB2
        obtain ⟨z0, z1, z2, z3, z4⟩ := id hb2
        clear t0 t1 t2 t3 t4 v0 v1 v2 v3 v4
        obtain ⟨el0, el1⟩ := IsW.evl hQ hI2
        go_wp2_with fail
        go_roundw
        case rel => exact ⟨k + 1, h, l, h2, l2, _, by omega, by go_num, rfl, ha2, hb2, hr2, hw2, Dv.next hn.2 hn.1 hlt hd 0 hD (IsW.sh hX hI) (IsW.dbl hQ hI2) ⟨by omega, by omega⟩ (by omega) (by omega)⟩
        case measure => simp [intOf]; omega
    · have hD' : Dv n d 128 ah al bh bl ρ := by
        have hk' : k = 128 := by omega
        rw [← hk']; exact hD
      obtain ⟨z0, z1, z2, z3, z4⟩ := id hr
      obtain ⟨e1, e2⟩ := hD'.stop
      obtain ⟨s0, s1, s2, s3, s4⟩ := Hold.set hr bh bl
      have HE := Lib.hid e2
      clear e2
      go_wp2_with fail
      refine bodyPost_ret (v := .tuple #[.agg #[.int .u64 bh, .int .u64 bl], .int .u64 ρ]) (by simp [results, Tryz.results123, go_sem, s1, s2]) rfl ⟨_, _, by rw [HE.out], e1, (hB.setCell (by simp) _).setCell (by simp) _⟩
end Go.Proofs.YtdanbabamcdebaaGreatDoor
