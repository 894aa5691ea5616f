/- Merged: RefMul RefNear RefRound. -/
import Derived.Test.YtfjefanhkbcfgaaGreatDoorHold
import Derived.Test.YtfjefanhkbcfgaaGreatDoorRefMath
import Derived.Laws.ResultCell
import Derived.Test.YtfjefanhkbcfgaaGreatDoorMgh
/- Contracts of the specification's products and quotients (louvreref01.Times, Divide, Nearest, Mul, Quo). -/
namespace Go.Proofs.YtfjefanhkbcfgaaGreatDoor
open Go.RowKit

set_option maxHeartbeats 400000 in
theorem plusm_any (a b c d n m : Int) (x : IsW a b n) (y : IsW c d m) (w : World) :
    Calls Tryz.prog 171 #[.agg #[.int .u64 a, .int .u64 b], .agg #[.int .u64 c, .int .u64 d]] w fun e w' =>
      ∃ h l, e = .returned (.agg #[.int .u64 h, .int .u64 l]) ∧ IsW h l ((n + m) % 340282366920938463463374607431768211456) ∧ Below w.heap.size w w' := by
  go_enter Tryz.func171, Tryz.ntmps171
  go_wp2
  · exact bodyPost_ret (v := .agg #[_, _]) (by simp [results, Tryz.results171, go_sem]) rfl ⟨_, _, rfl, x.plus1m y (by assumption), (((Below.refl _ _).alloc (Nat.le_refl _) _).alloc (by simp) _).alloc (by simp; omega) _⟩
  · exact bodyPost_ret (v := .agg #[_, _]) (by simp [results, Tryz.results171, go_sem]) rfl ⟨_, _, rfl, x.plus2m y (by assumption), (((Below.refl _ _).alloc (Nat.le_refl _) _).alloc (by simp) _).alloc (by simp; omega) _⟩

set_option maxHeartbeats 800000 in
theorem times_any (x y : Int) (hx : InU x) (hy : InU y) (w : World) :
    Calls Tryz.prog 150 #[.int .u64 x, .int .u64 y] w fun e w' =>
      ∃ h l, e = .returned (.agg #[.int .u64 h, .int .u64 l]) ∧ IsW h l (x * y) ∧ Below w.heap.size w w' := by
  obtain ⟨hx0, hx1⟩ := hx
  obtain ⟨hy0, hy1⟩ := hy
  have HS := Lib.hid (times_sum (x := x) (y := y))
  obtain ⟨p0, p1⟩ := prod_bound (x / 4294967296) (y / 4294967296) (by omega) (by omega) (by omega) (by omega)
  obtain ⟨q0, q1⟩ := prod_bound (x / 4294967296) (y % 4294967296) (by omega) (by omega) (by omega) (by omega)
  obtain ⟨r0, r1⟩ := prod_bound (x % 4294967296) (y / 4294967296) (by omega) (by omega) (by omega) (by omega)
  obtain ⟨s0, s1⟩ := prod_bound (x % 4294967296) (y % 4294967296) (by omega) (by omega) (by omega) (by omega)
  go_enter Tryz.func150, Tryz.ntmps150
  go_wp2_with fail
  have i1 : IsW (x / 4294967296 * (y / 4294967296)) (x % 4294967296 * (y % 4294967296)) (x / 4294967296 * (y / 4294967296) * 18446744073709551616 + x % 4294967296 * (y % 4294967296)) := ⟨⟨by omega, by omega⟩, ⟨by omega, by omega⟩, rfl⟩
  have i2 : IsW (x / 4294967296 * (y % 4294967296) / 4294967296) (x / 4294967296 * (y % 4294967296) % 4294967296 * 4294967296) ((x / 4294967296 * (y % 4294967296)) * 4294967296) := ⟨⟨by omega, by omega⟩, ⟨by omega, by omega⟩, by omega⟩
  have i3 : IsW (x % 4294967296 * (y / 4294967296) / 4294967296) (x % 4294967296 * (y / 4294967296) % 4294967296 * 4294967296) ((x % 4294967296 * (y / 4294967296)) * 4294967296) := ⟨⟨by omega, by omega⟩, ⟨by omega, by omega⟩, by omega⟩
  have hxy : Hid (x * y < 340282366920938463463374607431768211456) := by
    unfold Hid
    have h1 : x * y ≤ 18446744073709551615 * y := Int.mul_le_mul_of_nonneg_right hx1 hy0
    omega
  refine (plus_any _ _ _ _ _ _ i1 i2 (by have := HS.out; have := hxy.out; omega) _).mono ?_
  rintro e w1 ⟨h, l, rfl, hI, hB⟩
  have hb0 : Below w.heap.size w ((w.alloc (.cells #[.int .u64 0, .int .u64 0] 121)).alloc (.cells #[.int .u64 (x / 4294967296 * (y / 4294967296)), .int .u64 (x % 4294967296 * (y % 4294967296))] 121)) := ((Below.refl _ _).alloc (by simp) _).alloc (by simp) _
  have k0 : Hold w1 w.heap.size 0 0 := Hold.later ((Hold.new).later ((Below.refl _ _).alloc (Nat.le_refl _) _)) hB
  have k1 : Hold w1 (w.heap.size + 1) (x / 4294967296 * (y / 4294967296)) (x % 4294967296 * (y % 4294967296)) := by
    have := (Hold.new (w := w.alloc (.cells #[.int .u64 0, .int .u64 0] 121)) (h := x / 4294967296 * (y / 4294967296)) (l := x % 4294967296 * (y % 4294967296)) (t := 121)).later hB
    simpa using this
  have k0' := Hold.other k0 (c := w.heap.size + 1) (by omega) (.int .u64 h) (.int .u64 l)
  have k1' := Hold.set k1 h l
  obtain ⟨m0, m1, m2, m3, m4⟩ := id k1
  obtain ⟨n0, n1, n2, n3, n4⟩ := id k1'
  clear p0 p1 q0 q1 s0 s1
  go_wp2_with fail
  refine (plus_any _ _ _ _ _ _ hI i3 (by have := HS.out; have := hxy.out; omega) _).mono ?_
  rintro e w2 ⟨h2, l2, rfl, hI2, hB2⟩
  have k0'' := Hold.later k0' hB2
  obtain ⟨o0, o1, o2, o3, o4⟩ := id k0''
  obtain ⟨s0, s1, s2, s3, s4⟩ := Hold.set k0'' h2 l2
  go_wp2_with fail
  have e1 : x / 4294967296 * (y / 4294967296) * 18446744073709551616 + x % 4294967296 * (y % 4294967296) + x / 4294967296 * (y % 4294967296) * 4294967296 + x % 4294967296 * (y / 4294967296) * 4294967296 = x * y := HS.out
  rw [e1] at hI2
  refine bodyPost_ret (v := .agg #[_, _]) (by simp [results, Tryz.results150, go_sem, s1, s2]) rfl ⟨_, _, rfl, hI2, ?_⟩
  have c1 : Below w.heap.size w w1 := hb0.trans (hB.mono (by simp; omega))
  have c2 : Below w.heap.size w ((w1.setCell ⟨w.heap.size + 1, 0, none⟩ (.int .u64 h)).setCell ⟨w.heap.size + 1, 1, none⟩ (.int .u64 l)) := (c1.setCell (by simp) _).setCell (by simp) _
  have c3 : Below w.heap.size w w2 := c2.trans (hB2.mono c2.size)
  exact (c3.setCell (by simp) _).setCell (by simp) _

theorem Hold.set1 {w : World} {b : Nat} {h l : Int} (x : Hold w b h l) (l' : Int) : Hold (w.setCell ⟨b, 1, none⟩ (.int .u64 l')) b h l' := by
  obtain ⟨h0, h1, h2, h3, h4⟩ := x
  refine ⟨by simpa using h0, ?_, World.cell?_setCell_same _ _ _ h2, by simpa using h3, by simpa using h4⟩
  rw [World.cell?_setCell_other _ _ _ _ (by simp)]; exact h1
theorem Hold.other1 {w : World} {b c : Nat} {h l : Int} (x : Hold w b h l) (hne : c ≠ b) (l' : Value) : Hold (w.setCell ⟨c, 1, none⟩ l') b h l := by
  obtain ⟨h0, h1, h2, h3, h4⟩ := x
  refine ⟨by simpa using h0, ?_, ?_, by simpa using h3, by simpa using h4⟩ <;>
  · rw [World.cell?_setCell_other _ _ _ _ (fun e => hne (congrArg Addr.block e))]; assumption

set_option maxRecDepth 100000 in
set_option maxHeartbeats 1600000 in
theorem divide_any (xh xl d n : Int) (x : IsW xh xl n) (hd : 1 ≤ d) (hd1 : d ≤ 18446744073709551615) (w : World) :
    Calls Tryz.prog 195 #[.agg #[.int .u64 xh, .int .u64 xl], .int .u64 d] w fun e w' =>
      ∃ h l, e = .returned (.tuple #[.agg #[.int .u64 h, .int .u64 l], .int .u64 (n % d)]) ∧ IsW h l (n / d) ∧ Below w.heap.size w w' := by
  have q0 : Hold (((w.alloc (.cells #[.int .u64 xh, .int .u64 xl] 121)).alloc (.cells #[.int .u64 0, .int .u64 0] 121)).alloc (.cells #[.int .u64 0, .int .u64 0] 121)) w.heap.size xh xl :=
    (Hold.new.later ((Below.refl _ _).alloc (by simp) _)).later ((Below.refl _ _).alloc (by simp) _)
  have q1 : Hold (((w.alloc (.cells #[.int .u64 xh, .int .u64 xl] 121)).alloc (.cells #[.int .u64 0, .int .u64 0] 121)).alloc (.cells #[.int .u64 0, .int .u64 0] 121)) (w.heap.size + 1) 0 0 := by
    have := (Hold.new (w := w.alloc (.cells #[.int .u64 xh, .int .u64 xl] 121)) (h := 0) (l := 0) (t := 121)).later ((Below.refl _ _).alloc (Nat.le_refl _) (.cells #[.int .u64 0, .int .u64 0] 121))
    simpa using this
  have q2 : Hold (((w.alloc (.cells #[.int .u64 xh, .int .u64 xl] 121)).alloc (.cells #[.int .u64 0, .int .u64 0] 121)).alloc (.cells #[.int .u64 0, .int .u64 0] 121)) (w.heap.size + 1 + 1) 0 0 := by
    have := Hold.new (w := (w.alloc (.cells #[.int .u64 xh, .int .u64 xl] 121)).alloc (.cells #[.int .u64 0, .int .u64 0] 121)) (h := 0) (l := 0) (t := 121)
    simpa using this
  have hb0 : Below w.heap.size w (((w.alloc (.cells #[.int .u64 xh, .int .u64 xl] 121)).alloc (.cells #[.int .u64 0, .int .u64 0] 121)).alloc (.cells #[.int .u64 0, .int .u64 0] 121)) := (((Below.refl _ _).alloc (by simp) _).alloc (by simp) _).alloc (by simp; omega) _
  have hn := x.bd
  go_enter Tryz.func195, Tryz.ntmps195
  go_wp2_with fail
  go_loopw [7, 8] (fun r i wr => ∃ (k : Nat) (ah al bh bl ρ : Int), k ≤ 128 ∧ i = .int .i64 k ∧ r = .int .u64 ρ ∧ Hold wr w.heap.size ah al ∧ Hold wr (w.heap.size + 1 + 1) bh bl ∧ Hold wr (w.heap.size + 1) 0 0 ∧ Below w.heap.size w wr ∧ Dv n d k ah al bh bl ρ) (fun _ i _ => 128 - (intOf i).toNat)
  case atStart => exact ⟨0, xh, xl, 0, 0, 0, by omega, rfl, rfl, q0, q2, q1, hb0, Dv.start x⟩
  case round =>
    rename_i wr
    clear q0 q1 q2 hb0
    obtain ⟨k, ah, al, bh, bl, ρ, hk, rfl, rfl, ha, hb, hr, hB, hD⟩ := hrel
    obtain ⟨r0, r1⟩ := hD.rbd hd
    obtain ⟨X, Q, hX, hQ⟩ := hD.xbd
    have hah : 0 ≤ ah ∧ ah ≤ 18446744073709551615 := hX.1
    obtain ⟨u0, u1, u2, u3, u4⟩ := id ha
    obtain ⟨d0, d1, d2, d3, d4⟩ := id hb
    by_cases hlt : k < 128
    · have hbit : 0 ≤ ah / 9223372036854775808 ∧ ah / 9223372036854775808 ≤ 1 := by omega
      obtain ⟨hbit0, hbit1⟩ := hbit
      by_cases hR : d ≤ ρ * 2 + ah / 9223372036854775808
      · by_cases hc : ρ < 9223372036854775808
        · have hc1 : (ρ / 9223372036854775808 == 1) = false := by rw [beq_eq_false_iff_ne]; omega
          go_wp2_with fail
          refine (plusm_any _ _ _ _ _ _ hX hX _).mono ?_
          rintro e w1 ⟨h, l, rfl, hI, hB1⟩
          have ha1 := Hold.set (Hold.later ha hB1) h l
          have hb1 := Hold.other (Hold.later hb hB1) (c := w.heap.size) (by omega) (.int .u64 h) (.int .u64 l)
          have hr1 := Hold.other (Hold.later hr hB1) (c := w.heap.size) (by omega) (.int .u64 h) (.int .u64 l)
          have hw1 : Below w.heap.size w ((w1.setCell ⟨w.heap.size, 0, none⟩ (.int .u64 h)).setCell ⟨w.heap.size, 1, none⟩ (.int .u64 l)) := ((hB.trans (hB1.mono hB.size)).setCell (by simp) _).setCell (by simp) _
          obtain ⟨t0, t1, t2, t3, t4⟩ := Hold.later ha hB1
          obtain ⟨v0, v1, v2, v3, v4⟩ := id hb1
          clear u0 u1 u2 u3 u4 d0 d1 d2 d3 d4
          go_wp2_with fail
          refine (plusm_any _ _ _ _ _ _ hQ hQ _).mono ?_
          rintro e w2 ⟨h2, l2, rfl, hI2, hB2⟩
          have ha2 := Hold.other (Hold.later ha1 hB2) (c := w.heap.size + 1 + 1) (by omega) (.int .u64 h2) (.int .u64 l2)
          have hb2 := Hold.set (Hold.later hb1 hB2) h2 l2
          have hr2 := Hold.other (Hold.later hr1 hB2) (c := w.heap.size + 1 + 1) (by omega) (.int .u64 h2) (.int .u64 l2)
          have hw2 : Below w.heap.size w ((w2.setCell ⟨w.heap.size + 1 + 1, 0, none⟩ (.int .u64 h2)).setCell ⟨w.heap.size + 1 + 1, 1, none⟩ (.int .u64 l2)) := ((hw1.trans (hB2.mono hw1.size)).setCell (by simp; omega) _).setCell (by simp; omega) _
          obtain ⟨y0, y1, y2, y3, y4⟩ := Hold.later hb1 hB2
          obtain ⟨z0, z1, z2, z3, z4⟩ := id hb2
          clear t0 t1 t2 t3 t4 v0 v1 v2 v3 v4
          obtain ⟨el0, el1⟩ := IsW.evl hQ hI2
          go_wp2_with fail
          go_roundw
          case rel => exact ⟨k + 1, h, l, h2, l2 + 1, _, by omega, by go_num, rfl, Hold.other1 ha2 (by omega) _, Hold.set1 hb2 _, Hold.other1 hr2 (by omega) _, hw2.setCell (by simp; omega) _, Dv.next hn.2 hn.1 hlt hd 1 hD (IsW.sh hX hI) (IsW.dbl1 hQ hI2) ⟨by omega, by omega⟩ (by omega) (by omega)⟩
          case measure => simp [intOf]; omega
        · have hc1 : (ρ / 9223372036854775808 == 1) = true := by rw [beq_iff_eq]; omega
          have hv : Hid (IntKind.u64.wrap (IntKind.u64.wrap (IntKind.u64.wrap (ρ * 2) + ah / 9223372036854775808) - d) = ρ * 2 + ah / 9223372036854775808 - d) := by unfold Hid; simp only [wrap_u64]; omega
          go_wp2_with fail
          refine (plusm_any _ _ _ _ _ _ hX hX _).mono ?_
          rintro e w1 ⟨h, l, rfl, hI, hB1⟩
          have ha1 := Hold.set (Hold.later ha hB1) h l
          have hb1 := Hold.other (Hold.later hb hB1) (c := w.heap.size) (by omega) (.int .u64 h) (.int .u64 l)
          have hr1 := Hold.other (Hold.later hr hB1) (c := w.heap.size) (by omega) (.int .u64 h) (.int .u64 l)
          have hw1 : Below w.heap.size w ((w1.setCell ⟨w.heap.size, 0, none⟩ (.int .u64 h)).setCell ⟨w.heap.size, 1, none⟩ (.int .u64 l)) := ((hB.trans (hB1.mono hB.size)).setCell (by simp) _).setCell (by simp) _
          obtain ⟨t0, t1, t2, t3, t4⟩ := Hold.later ha hB1
          obtain ⟨v0, v1, v2, v3, v4⟩ := id hb1
          clear u0 u1 u2 u3 u4 d0 d1 d2 d3 d4
          go_wp2_with fail
          refine (plusm_any _ _ _ _ _ _ hQ hQ _).mono ?_
          rintro e w2 ⟨h2, l2, rfl, hI2, hB2⟩
          have ha2 := Hold.other (Hold.later ha1 hB2) (c := w.heap.size + 1 + 1) (by omega) (.int .u64 h2) (.int .u64 l2)
          have hb2 := Hold.set (Hold.later hb1 hB2) h2 l2
          have hr2 := Hold.other (Hold.later hr1 hB2) (c := w.heap.size + 1 + 1) (by omega) (.int .u64 h2) (.int .u64 l2)
          have hw2 : Below w.heap.size w ((w2.setCell ⟨w.heap.size + 1 + 1, 0, none⟩ (.int .u64 h2)).setCell ⟨w.heap.size + 1 + 1, 1, none⟩ (.int .u64 l2)) := ((hw1.trans (hB2.mono hw1.size)).setCell (by simp; omega) _).setCell (by simp; omega) _
          obtain ⟨y0, y1, y2, y3, y4⟩ := Hold.later hb1 hB2
          obtain ⟨z0, z1, z2, z3, z4⟩ := id hb2
          clear t0 t1 t2 t3 t4 v0 v1 v2 v3 v4
          obtain ⟨el0, el1⟩ := IsW.evl hQ hI2
          go_wp2_with fail
          go_roundw
          case rel => exact ⟨k + 1, h, l, h2, l2 + 1, _, by omega, by go_num, congrArg (Value.int .u64) hv.out, Hold.other1 ha2 (by omega) _, Hold.set1 hb2 _, Hold.other1 hr2 (by omega) _, hw2.setCell (by simp; omega) _, Dv.next hn.2 hn.1 hlt hd 1 hD (IsW.sh hX hI) (IsW.dbl1 hQ hI2) ⟨by omega, by omega⟩ (by omega) (by omega)⟩
          case measure => simp [intOf]; omega
      · have hc1 : (ρ / 9223372036854775808 == 1) = false := by rw [beq_eq_false_iff_ne]; omega
        go_wp2_with fail
        refine (plusm_any _ _ _ _ _ _ hX hX _).mono ?_
        rintro e w1 ⟨h, l, rfl, hI, hB1⟩
        have ha1 := Hold.set (Hold.later ha hB1) h l
        have hb1 := Hold.other (Hold.later hb hB1) (c := w.heap.size) (by omega) (.int .u64 h) (.int .u64 l)
        have hr1 := Hold.other (Hold.later hr hB1) (c := w.heap.size) (by omega) (.int .u64 h) (.int .u64 l)
        have hw1 : Below w.heap.size w ((w1.setCell ⟨w.heap.size, 0, none⟩ (.int .u64 h)).setCell ⟨w.heap.size, 1, none⟩ (.int .u64 l)) := ((hB.trans (hB1.mono hB.size)).setCell (by simp) _).setCell (by simp) _
        obtain ⟨t0, t1, t2, t3, t4⟩ := Hold.later ha hB1
        obtain ⟨v0, v1, v2, v3, v4⟩ := id hb1
        clear u0 u1 u2 u3 u4 d0 d1 d2 d3 d4
        go_wp2_with fail
        refine (plusm_any _ _ _ _ _ _ hQ hQ _).mono ?_
        rintro e w2 ⟨h2, l2, rfl, hI2, hB2⟩
        have ha2 := Hold.other (Hold.later ha1 hB2) (c := w.heap.size + 1 + 1) (by omega) (.int .u64 h2) (.int .u64 l2)
        have hb2 := Hold.set (Hold.later hb1 hB2) h2 l2
        have hr2 := Hold.other (Hold.later hr1 hB2) (c := w.heap.size + 1 + 1) (by omega) (.int .u64 h2) (.int .u64 l2)
        have hw2 : Below w.heap.size w ((w2.setCell ⟨w.heap.size + 1 + 1, 0, none⟩ (.int .u64 h2)).setCell ⟨w.heap.size + 1 + 1, 1, none⟩ (.int .u64 l2)) := ((hw1.trans (hB2.mono hw1.size)).setCell (by simp; omega) _).setCell (by simp; omega) _
        obtain ⟨y0, y1, y2, y3, y4⟩ := Hold.later hb1 hB2
        obtain ⟨z0, z1, z2, z3, z4⟩ := id hb2
        clear t0 t1 t2 t3 t4 v0 v1 v2 v3 v4
        obtain ⟨el0, el1⟩ := IsW.evl hQ hI2
        go_wp2_with fail
        go_roundw
        case rel => exact ⟨k + 1, h, l, h2, l2, _, by omega, by go_num, rfl, ha2, hb2, hr2, hw2, Dv.next hn.2 hn.1 hlt hd 0 hD (IsW.sh hX hI) (IsW.dbl hQ hI2) ⟨by omega, by omega⟩ (by omega) (by omega)⟩
        case measure => simp [intOf]; omega
    · have hD' : Dv n d 128 ah al bh bl ρ := by
        have hk' : k = 128 := by omega
        rw [← hk']; exact hD
      obtain ⟨z0, z1, z2, z3, z4⟩ := id hr
      obtain ⟨e1, e2⟩ := hD'.stop
      obtain ⟨s0, s1, s2, s3, s4⟩ := Hold.set hr bh bl
      have HE := Lib.hid e2
      clear e2
      go_wp2_with fail
      refine bodyPost_ret (v := .tuple #[.agg #[.int .u64 bh, .int .u64 bl], .int .u64 ρ]) (by simp [results, Tryz.results195, go_sem, s1, s2]) rfl ⟨_, _, by rw [HE.out], e1, (hB.setCell (by simp) _).setCell (by simp) _⟩
end Go.Proofs.YtfjefanhkbcfgaaGreatDoor
/- The contract of the specification's Nearest. -/
namespace Go.Proofs.YtfjefanhkbcfgaaGreatDoor
open Go.RowKit

set_option maxHeartbeats 800000 in
theorem nearest_any (xh xl d n : Int) (x : IsW xh xl n) (hd : 1 ≤ d) (hd1 : d ≤ 18446744073709551615) (hs : n + d / 2 < 340282366920938463463374607431768211456) (w : World) :
    Calls Tryz.prog 149 #[.agg #[.int .u64 xh, .int .u64 xl], .int .u64 d] w fun e w' =>
      ∃ h l, e = .returned (.agg #[.int .u64 h, .int .u64 l]) ∧ IsW h l ((n + d / 2) / d) ∧ Below w.heap.size w w' := by
  have HX := Lib.hid x
  have HS := Lib.hid hs
  have hn := x.bd
  have m0 : 0 ≤ n % d := Int.emod_nonneg n (show d ≠ 0 by omega)
  have m1 : n % d < d := Int.emod_lt_of_pos n (show 0 < d by omega)
  have n0 : 0 ≤ n / d := Int.ediv_nonneg hn.1 (by omega)
  have n1 : (n + d / 2) / d ≤ n + d / 2 := Int.ediv_le_self _ (by omega)
  have hb0 : Below w.heap.size w ((w.alloc (.cells #[.int .u64 xh, .int .u64 xl] 121)).alloc (.cells #[.int .u64 0, .int .u64 0] 121)) := ((Below.refl _ _).alloc (by simp) _).alloc (by simp) _
  have k0 : Hold ((w.alloc (.cells #[.int .u64 xh, .int .u64 xl] 121)).alloc (.cells #[.int .u64 0, .int .u64 0] 121)) (w.heap.size + 1) 0 0 := by
    have := Hold.new (w := w.alloc (.cells #[.int .u64 xh, .int .u64 xl] 121)) (h := 0) (l := 0) (t := 121)
    simpa using this
  obtain ⟨r, HR⟩ : ∃ r, Hid (n % d = r) := ⟨_, rfl⟩
  rw [HR.out] at m0 m1
  have hup : Hid (d - r ≤ r → (n + d / 2) / d = n / d + 1) := by rw [← HR.out]; exact near_up hd
  have hdn : Hid (¬ d - r ≤ r → (n + d / 2) / d = n / d) := by rw [← HR.out]; exact near_dn hd
  clear x hs hn
  by_cases hc : d - r ≤ r
  · have e1 := Lib.hid (hup.out hc)
    rw [e1.out] at n1 ⊢
    go_enter Tryz.func149, Tryz.ntmps149
    go_wp2_with fail
    refine (divide_any _ _ _ _ HX.out hd hd1 _).mono ?_
    rintro e w1 ⟨h, l, rfl, hI, hB⟩
    rw [HR.out]
    have k1 := Hold.later k0 hB
    obtain ⟨u0, u1, u2, u3, u4⟩ := id k1
    have hw1 : Below w.heap.size w w1 := hb0.trans (hB.mono hb0.size)
    have q1 := Hold.new (w := w1) (h := h) (l := l) (t := 121)
    have k2 := Hold.later k1 ((Below.refl _ _).alloc (Nat.le_refl _) (.cells #[.int .u64 h, .int .u64 l] 121))
    go_wp2_with fail
    refine (plus_any _ _ _ _ _ _ hI (IsW.low (l := 1) (by unfold InU; omega)) (by have := HS.out; omega) _).mono ?_
    rintro e w2 ⟨h2, l2, rfl, hI2, hB2⟩
    have k3 := Hold.later k2 hB2
    have q2 := Hold.later q1 hB2
    have hw2 : Below w.heap.size w w2 := (hw1.alloc hw1.size (.cells #[.int .u64 h, .int .u64 l] 121)).trans (hB2.mono (by have := hw1.size; simp; omega))
    have hlt := hw1.size
    obtain ⟨v0, v1, v2, v3, v4⟩ := id q2
    have q3 := Hold.set q2 h2 l2
    obtain ⟨y0, y1, y2, y3, y4⟩ := id q3
    have k4 := Hold.other k3 (c := w1.heap.size) (by omega) (.int .u64 h2) (.int .u64 l2)
    obtain ⟨z0, z1, z2, z3, z4⟩ := id k4
    obtain ⟨s0, s1, s2, s3, s4⟩ := Hold.set k4 h2 l2
    go_wp2_with fail
    refine bodyPost_ret (v := .agg #[.int .u64 h2, .int .u64 l2]) (by simp [results, Tryz.results149, go_sem, s1, s2]) rfl ⟨_, _, rfl, hI2, (((hw2.setCell (by simp; omega) _).setCell (by simp; omega) _).setCell (by simp) _).setCell (by simp) _⟩
  · have e1 := Lib.hid (hdn.out hc)
    rw [e1.out] at n1 ⊢
    go_enter Tryz.func149, Tryz.ntmps149
    go_wp2_with fail
    refine (divide_any _ _ _ _ HX.out hd hd1 _).mono ?_
    rintro e w1 ⟨h, l, rfl, hI, hB⟩
    rw [HR.out]
    have k1 := Hold.later k0 hB
    obtain ⟨u0, u1, u2, u3, u4⟩ := id k1
    have hw1 : Below w.heap.size w w1 := hb0.trans (hB.mono hb0.size)
    obtain ⟨s0, s1, s2, s3, s4⟩ := Hold.later (Hold.set k1 h l) ((Below.refl _ _).alloc (Nat.le_refl _) (.cells #[.int .u64 h, .int .u64 l] 121))
    go_wp2_with fail
    have hw2 : Below w.heap.size w ((w1.setCell ⟨w.heap.size + 1, 0, none⟩ (.int .u64 h)).setCell ⟨w.heap.size + 1, 1, none⟩ (.int .u64 l)) := (hw1.setCell (by simp) _).setCell (by simp) _
    refine bodyPost_ret (v := .agg #[.int .u64 h, .int .u64 l]) (by simp [results, Tryz.results149, go_sem, s1, s2]) rfl ⟨_, _, rfl, hI, hw2.alloc hw2.size _⟩
end Go.Proofs.YtfjefanhkbcfgaaGreatDoor
/- The contract of Round of the specification. -/
namespace Go.Proofs.YtfjefanhkbcfgaaGreatDoor
open Go.RowKit

set_option maxHeartbeats 800000 in
theorem rround_any (a p : Int) (h : InI a) (hp0 : -9223372036854775808 ≤ p) (w : World) :
    Calls Tryz.prog 88 #[.int .i64 a, .int .i64 p] w fun e w' => e = .returned (.tuple #[.int .i64 (rndV a p), .bool (rndB a p)]) ∧ Below w.heap.size w w' := by
  have HA := Lib.hid h
  by_cases h4 : 4 ≤ p
  · have e1 : rndV a p = resV a := by unfold rndV; rw [if_pos h4]
    have e2 : rndB a p = resB a := by unfold rndB; rw [if_pos h4]
    have e3 := Lib.hid (sg_size a)
    rw [e1, e2]
    clear e1 e2 h
    go_enter Tryz.func88, Tryz.ntmps88
    go_wp2_with fail
    refine (rsize_any a HA.out _).mono ?_
    rintro e w' ⟨rfl, rfl⟩
    go_wp2_with fail
    refine (signed_any _ _ _ (size_lo HA.out) _ _).mono ?_
    rintro e w1 ⟨rfl, hB⟩
    rw [e3.out]
    go_wp2_with fail
    go_ret2
    exact ⟨rfl, hB⟩
  · by_cases h15 : p < -15
    · have e1 : rndV a p = 0 := by unfold rndV; rw [if_neg h4, if_pos h15]
      have e2 : rndB a p = true := by unfold rndB; rw [if_neg h4, if_pos h15]
      rw [e1, e2]
      clear e1 e2 h
      go_enter Tryz.func88, Tryz.ntmps88
      go_wp2_with fail
      go_ret2
      exact ⟨rfl, Below.refl _ _⟩
    · have e1 : rndV a p = resV (roundZ a (4 - p).toNat) := by unfold rndV; rw [if_neg h4, if_neg h15]
      have e2 : rndB a p = resB (roundZ a (4 - p).toNat) := by unfold rndB; rw [if_neg h4, if_neg h15]
      rw [e1, e2]
      clear e1 e2
      obtain ⟨m, hm⟩ : ∃ m : Nat, (m : Int) = 4 - p := ⟨(4 - p).toNat, by omega⟩
      have hm19 : m ≤ 19 := by omega
      have hm1 : 1 ≤ m := by omega
      obtain rfl : p = 4 - (m : Int) := by omega
      rw [show (4 - (4 - (m : Int))).toNat = m by omega]
      clear h4 h15 hm hp0
      have hs := Lib.hid (size_bd' h)
      clear h
      go_enter Tryz.func88, Tryz.ntmps88
      go_wp2_with fail
      go_loop [6, 7] (fun s i => ∃ k : Nat, k ≤ m ∧ i = .int .i64 (4 - (k : Int)) ∧ s = .int .u64 (p10 k)) (fun _ i => (intOf i + 15).toNat)
      case atStart => exact ⟨0, by omega, rfl, by rw [p10_zero]⟩
      case round =>
        obtain ⟨k, hk, rfl, rfl⟩ := hrel
        have b0 := p10_pos k
        by_cases hlt : k < m
        · have b1 : p10 k ≤ 1000000000000000000 := by
            have := p10_le (k := k + 1) (by omega)
            rw [p10_succ] at this
            omega
          have e3 := Lib.hid (p10_succ k)
          go_wp2_with fail
          go_round
          case rel => exact ⟨k + 1, by omega, by go_num, by rw [e3.out]⟩
          case measure => simp [intOf]; omega
        · obtain rfl : k = m := by omega
          have b1 := p10_le (k := k) (by omega)
          have hr := Lib.hid (round_bd (s := sizeOf' a) (d := p10 k) hs.out.1 b0)
          go_wp2_with fail
          refine (rsize_any a HA.out _).mono ?_
          rintro e w' ⟨rfl, rfl⟩
          go_wp2_with fail
          refine (nearest_any _ _ _ _ (size_lo HA.out) b0 (by omega) (by have := hs.out; omega) _).mono ?_
          rintro e w1 ⟨qh, ql, rfl, hI, hB1⟩
          have hh : qh = 0 ∧ ql = (sizeOf' a + p10 k / 2) / p10 k := by
            have := hr.out
            have := hs.out
            unfold IsW InU at hI
            omega
          obtain ⟨rfl, rfl⟩ := hh
          obtain ⟨r0, r1, r2, r3⟩ := hr.out
          go_wp2_with fail
          refine (times_any _ _ ⟨r2, by have := hs.out; omega⟩ ⟨by omega, by omega⟩ _).mono ?_
          rintro e w2 ⟨th, tl, rfl, hI2, hB2⟩
          go_wp2_with fail
          refine (signed_any _ _ _ hI2 _ _).mono ?_
          rintro e w3 ⟨rfl, hB3⟩
          go_wp2_with fail
          go_ret2
          exact ⟨rfl, Below.next (Below.next (hB1.alloc hB1.size _) hB2) hB3⟩
end Go.Proofs.YtfjefanhkbcfgaaGreatDoor
