/- The walk of the law. -/
import Derived.Test.YtigofjamednfpaaOverG
import Derived.Test.YtigofjamednfpaaClosed
import Derived.Test.YtigofjamednfpaaCame
import Derived.Deep.CutRange
namespace Go.Proofs.Ytigofjamednfpaa.Re
open Go.RowKit AM
set_option maxRecDepth 100000 in
set_option maxHeartbeats 6400000 in
theorem regionSplits_any (r1 r2 r3 r4 : Int) (a : Option Addr) (len cap : Nat) (L : List RV) (row col : Int) (w : World) (hL : IsL w a len L) :
    Calls Try.prog 5 #[.agg #[.int .i64 r1, .int .i64 r2, .int .i64 r3, .int .i64 r4], .slice a len cap, .int .i64 row, .int .i64 col] w fun e w' => e = .returned (.bool true) ∧ Below w.heap.size w w' := by
  have HL := Lib.hid hL
  have HLL := Lib.hid hL.1
  clear hL
  have HF := Lib.hid (Four.start w r1 r2 r3 r4 23)
  have HB := Lib.hid (below_alloc w (.cells #[.int .i64 r1, .int .i64 r2, .int .i64 r3, .int .i64 r4] 23))
  go_enter Try.func5, Try.ntmps5
  go_wp2_with fail
  generalize w.alloc (.cells #[.int .i64 r1, .int .i64 r2, .int .i64 r3, .int .i64 r4] 23) = w0 at *
  refine (valid20_any r1 r2 r3 r4 a len cap L _ (HL.out.later HB.out)).mono ?_
  rintro e w1 ⟨rfl, hB1⟩
  have HF1 := Lib.hid (HF.out.later hB1)
  have HB1 := Lib.hid (Below.next HB.out hB1)
  clear hB1 HF HB
  cases hok : okA ⟨r1, r2, r3, r4⟩ L
  · clear hok
    go_wp2_with fail
    go_ret
    exact ⟨rfl, HB1.out⟩
  · obtain ⟨h40, hg⟩ := okA_iff.1 hok
    have hl : len ≤ 100000 := by have := HLL.out; omega
    have hck := (gcE_zero.1 hg).1
    have hck4 := hck
    unfold R4.ck at hck4
    rw [ckB_iff] at hck4
    dsimp only at hck4
    have HG := Lib.hid hg
    have HCK := Lib.hid hck
    have HE : Hid (overV ⟨r1, r2, r3, r4⟩ L = .tuple #[rights3 (ovr RV.rd ⟨r1, r2, r3, r4⟩ L) (ovr RV.wr ⟨r1, r2, r3, r4⟩ L) (ovr RV.ow ⟨r1, r2, r3, r4⟩ L), .int .i64 0]) := by
      unfold Hid overV ovV; rw [hg, if_pos rfl, if_pos rfl, if_pos rfl]
    have HTWO : Hid (∀ (x y : R4), x.ck = true → y.ck = true → (∀ p q, has4 ⟨r1, r2, r3, r4⟩ p q = true ↔ has4 x p q = true ∨ has4 y p q = true) → ∀ f : RV → W64, ovr f ⟨r1, r2, r3, r4⟩ L = ovr f x L &&& ovr f y L) := fun x y hx hy h f => ovr_two hg hx hy h
    have HSUB : Hid (∀ x : R4, x.ck = true → overV x L = .tuple #[rights3 (ovr RV.rd x L) (ovr RV.wr x L) (ovr RV.ow x L), .int .i64 0]) := fun x hx => by
      have h := gcE_sub hg hx
      unfold overV ovV; rw [h, if_pos rfl, if_pos rfl, if_pos rfl]
    clear hok h40 hg hck
    obtain ⟨_, e1, e2, e3, e4⟩ := HF1.out
    go_wp2_with fail
    refine (over_any r1 r2 r3 r4 a len cap L hl _ (HL.out.later HB1.out)).mono ?_
    rw [HE.out]
    rintro e w2 ⟨rfl, hB2⟩
    have HF2 := Lib.hid (HF1.out.later hB2)
    have HB2 := Lib.hid (Below.next HB1.out hB2)
    clear hB2 HF1 HB1 HE e1 e2 e3 e4
    unfold rights3
    generalize hq1 : ovr RV.rd ⟨r1, r2, r3, r4⟩ L = x1
    have HQ1 := Lib.hid hq1
    clear hq1
    generalize hq2 : ovr RV.wr ⟨r1, r2, r3, r4⟩ L = x2
    have HQ2 := Lib.hid hq2
    clear hq2
    generalize hq3 : ovr RV.ow ⟨r1, r2, r3, r4⟩ L = x3
    have HQ3 := Lib.hid hq3
    clear hq3
    have HFz := Lib.hid (HF2.out.later (below_alloc w2 (.cells #[.int .u64 (x1.toNat : Int), .int .u64 (x2.toNat : Int), .int .u64 (x3.toNat : Int)] 28)))
    have HXz := Lib.hid (Box3.start w2 (x1.toNat : Int) (x2.toNat : Int) (x3.toNat : Int) 28)
    have HBz := Lib.hid (Below.next HB2.out (below_alloc w2 (.cells #[.int .u64 (x1.toNat : Int), .int .u64 (x2.toNat : Int), .int .u64 (x3.toNat : Int)] 28)))
    have hEx : ∃ wz, wz = w2.alloc (.cells #[.int .u64 (x1.toNat : Int), .int .u64 (x2.toNat : Int), .int .u64 (x3.toNat : Int)] 28) := ⟨_, rfl⟩
    obtain ⟨wz, hwz⟩ := hEx
    rw [← hwz] at HFz HXz HBz
    have HWZ := Lib.hid hwz
    clear hwz
    obtain ⟨_, e1, e2, e3, e4⟩ := HF2.out
    by_cases hrow : r2 ≤ row ∧ row < r4
    · have hrow1 := hrow.1
      have hrow2 := hrow.2
      obtain ⟨c1, c2, hab⟩ := split_row HCK.out hrow.1 hrow.2
      have HA := Lib.hid (HSUB.out _ c1)
      have HC := Lib.hid (HSUB.out _ c2)
      have HT := Lib.hid (HTWO.out _ _ c1 c2 hab)
      obtain ⟨hr1, hr2⟩ := hrow
      clear c1 c2 hab
      go_wp2_with fail
      rw [← HWZ.out]
      clear e1 e2 e3 e4
      refine (over_any (r1) (r2) (r3) (row) a len cap L hl _ (HL.out.later HBz.out)).mono ?_
      rw [HA.out]
      rintro e wra ⟨rfl, hB⟩
      have HFra := Lib.hid (HFz.out.later hB)
      have HXra := Lib.hid (HXz.out.later hB)
      have HBra := Lib.hid (Below.next HBz.out hB)
      clear hB HA
      unfold rights3
      have HT1 := Lib.hid (HT.out RV.rd)
      generalize ovr RV.rd ⟨r1, r2, r3, row⟩ L = ra1 at *
      have HT2 := Lib.hid (HT.out RV.wr)
      generalize ovr RV.wr ⟨r1, r2, r3, row⟩ L = ra2 at *
      have HT3 := Lib.hid (HT.out RV.ow)
      generalize ovr RV.ow ⟨r1, r2, r3, row⟩ L = ra3 at *
      clear HT
      have HFry := Lib.hid (HFra.out.later (below_alloc wra (.cells #[.int .u64 (ra1.toNat : Int), .int .u64 (ra2.toNat : Int), .int .u64 (ra3.toNat : Int)] 28)))
      have HXry := Lib.hid (HXra.out.later (below_alloc wra (.cells #[.int .u64 (ra1.toNat : Int), .int .u64 (ra2.toNat : Int), .int .u64 (ra3.toNat : Int)] 28)))
      have HYry := Lib.hid (Box3.start wra (ra1.toNat : Int) (ra2.toNat : Int) (ra3.toNat : Int) 28)
      have HBry := Lib.hid (Below.next HBra.out (below_alloc wra (.cells #[.int .u64 (ra1.toNat : Int), .int .u64 (ra2.toNat : Int), .int .u64 (ra3.toNat : Int)] 28)))
      obtain ⟨_, e1, e2, e3, e4⟩ := HFra.out
      go_wp2_with fail
      clear e1 e2 e3 e4
      generalize wra.alloc (.cells #[.int .u64 (ra1.toNat : Int), .int .u64 (ra2.toNat : Int), .int .u64 (ra3.toNat : Int)] 28) = wry at *
      refine (over_any (r1) (row + 1) (r3) (r4) a len cap L hl _ (HL.out.later HBry.out)).mono ?_
      rw [HC.out]
      rintro e wrb ⟨rfl, hB⟩
      have HFrb := Lib.hid (HFry.out.later hB)
      have HXrb := Lib.hid (HXry.out.later hB)
      have HYrb := Lib.hid (HYry.out.later hB)
      have HBrb := Lib.hid (Below.next HBry.out hB)
      clear hB HC HFra HXra HBra HFry HXry HYry HBry
      unfold rights3
      generalize ovr RV.rd ⟨r1, row + 1, r3, r4⟩ L = rb1 at *
      generalize ovr RV.wr ⟨r1, row + 1, r3, r4⟩ L = rb2 at *
      generalize ovr RV.ow ⟨r1, row + 1, r3, r4⟩ L = rb3 at *
      have q1 : bits .and .u64 (ra1.toNat : Int) (rb1.toNat : Int) = (x1.toNat : Int) := by rw [bits_and, ← HT1.out, HQ1.out]
      have q2 : bits .and .u64 (ra2.toNat : Int) (rb2.toNat : Int) = (x2.toNat : Int) := by rw [bits_and, ← HT2.out, HQ2.out]
      have q3 : bits .and .u64 (ra3.toNat : Int) (rb3.toNat : Int) = (x3.toNat : Int) := by rw [bits_and, ← HT3.out, HQ3.out]
      clear HT1 HT2 HT3
      have HFrz := Lib.hid (HFrb.out.later (below_alloc wrb (.cells #[.int .u64 (rb1.toNat : Int), .int .u64 (rb2.toNat : Int), .int .u64 (rb3.toNat : Int)] 28)))
      have HXrz := Lib.hid (HXrb.out.later (below_alloc wrb (.cells #[.int .u64 (rb1.toNat : Int), .int .u64 (rb2.toNat : Int), .int .u64 (rb3.toNat : Int)] 28)))
      have HBrz := Lib.hid (Below.next HBrb.out (below_alloc wrb (.cells #[.int .u64 (rb1.toNat : Int), .int .u64 (rb2.toNat : Int), .int .u64 (rb3.toNat : Int)] 28)))
      obtain ⟨_, e1, e2, e3, e4⟩ := HFrb.out
      obtain ⟨_, u1, u2, u3⟩ := HXrb.out
      obtain ⟨_, v1, v2, v3⟩ := HYrb.out
      by_cases hcol : r1 ≤ col ∧ col < r3
      · have hcol1 := hcol.1
        have hcol2 := hcol.2
        obtain ⟨c1, c2, hab⟩ := split_col HCK.out hcol.1 hcol.2
        have HA := Lib.hid (HSUB.out _ c1)
        have HC := Lib.hid (HSUB.out _ c2)
        have HT := Lib.hid (HTWO.out _ _ c1 c2 hab)
        obtain ⟨hc1, hc2⟩ := hcol
        clear c1 c2 hab
        go_wp2_with fail
        refine (over_any (r1) (r2) (col) (r4) a len cap L hl _ (HL.out.later HBrz.out)).mono ?_
        rw [HA.out]
        rintro e wca ⟨rfl, hB⟩
        have HFca := Lib.hid (HFrz.out.later hB)
        have HXca := Lib.hid (HXrz.out.later hB)
        have HBca := Lib.hid (Below.next HBrz.out hB)
        clear hB HA
        unfold rights3
        have HT1 := Lib.hid (HT.out RV.rd)
        generalize ovr RV.rd ⟨r1, r2, col, r4⟩ L = ca1 at *
        have HT2 := Lib.hid (HT.out RV.wr)
        generalize ovr RV.wr ⟨r1, r2, col, r4⟩ L = ca2 at *
        have HT3 := Lib.hid (HT.out RV.ow)
        generalize ovr RV.ow ⟨r1, r2, col, r4⟩ L = ca3 at *
        clear HT
        have HFcy := Lib.hid (HFca.out.later (below_alloc wca (.cells #[.int .u64 (ca1.toNat : Int), .int .u64 (ca2.toNat : Int), .int .u64 (ca3.toNat : Int)] 28)))
        have HXcy := Lib.hid (HXca.out.later (below_alloc wca (.cells #[.int .u64 (ca1.toNat : Int), .int .u64 (ca2.toNat : Int), .int .u64 (ca3.toNat : Int)] 28)))
        have HYcy := Lib.hid (Box3.start wca (ca1.toNat : Int) (ca2.toNat : Int) (ca3.toNat : Int) 28)
        have HBcy := Lib.hid (Below.next HBca.out (below_alloc wca (.cells #[.int .u64 (ca1.toNat : Int), .int .u64 (ca2.toNat : Int), .int .u64 (ca3.toNat : Int)] 28)))
        obtain ⟨_, e1, e2, e3, e4⟩ := HFca.out
        go_wp2_with fail
        clear e1 e2 e3 e4
        generalize wca.alloc (.cells #[.int .u64 (ca1.toNat : Int), .int .u64 (ca2.toNat : Int), .int .u64 (ca3.toNat : Int)] 28) = wcy at *
        refine (over_any (col + 1) (r2) (r3) (r4) a len cap L hl _ (HL.out.later HBcy.out)).mono ?_
        rw [HC.out]
        rintro e wcb ⟨rfl, hB⟩
        have HFcb := Lib.hid (HFcy.out.later hB)
        have HXcb := Lib.hid (HXcy.out.later hB)
        have HYcb := Lib.hid (HYcy.out.later hB)
        have HBcb := Lib.hid (Below.next HBcy.out hB)
        clear hB HC HFca HXca HBca HFcy HXcy HYcy HBcy
        unfold rights3
        generalize ovr RV.rd ⟨col + 1, r2, r3, r4⟩ L = cb1 at *
        generalize ovr RV.wr ⟨col + 1, r2, r3, r4⟩ L = cb2 at *
        generalize ovr RV.ow ⟨col + 1, r2, r3, r4⟩ L = cb3 at *
        have q1 : bits .and .u64 (ca1.toNat : Int) (cb1.toNat : Int) = (x1.toNat : Int) := by rw [bits_and, ← HT1.out, HQ1.out]
        have q2 : bits .and .u64 (ca2.toNat : Int) (cb2.toNat : Int) = (x2.toNat : Int) := by rw [bits_and, ← HT2.out, HQ2.out]
        have q3 : bits .and .u64 (ca3.toNat : Int) (cb3.toNat : Int) = (x3.toNat : Int) := by rw [bits_and, ← HT3.out, HQ3.out]
        clear HT1 HT2 HT3
        have HFcz := Lib.hid (HFcb.out.later (below_alloc wcb (.cells #[.int .u64 (cb1.toNat : Int), .int .u64 (cb2.toNat : Int), .int .u64 (cb3.toNat : Int)] 28)))
        have HXcz := Lib.hid (HXcb.out.later (below_alloc wcb (.cells #[.int .u64 (cb1.toNat : Int), .int .u64 (cb2.toNat : Int), .int .u64 (cb3.toNat : Int)] 28)))
        have HBcz := Lib.hid (Below.next HBcb.out (below_alloc wcb (.cells #[.int .u64 (cb1.toNat : Int), .int .u64 (cb2.toNat : Int), .int .u64 (cb3.toNat : Int)] 28)))
        obtain ⟨_, e1, e2, e3, e4⟩ := HFcb.out
        obtain ⟨_, u1, u2, u3⟩ := HXcb.out
        obtain ⟨_, v1, v2, v3⟩ := HYcb.out
        go_wp2_with fail
        (try rw [← HWZ.out])
        refine (Go.Proofs.Ytigofjamednfpaa.example20 _).mono ?_
        rintro e wE ⟨rfl, hBE⟩
        have HBE := Lib.hid (Below.next HBcz.out hBE)
        go_wp2_with fail
        go_ret
        exact ⟨rfl, HBE.out⟩
      · have hcol1 : ¬ (r1 ≤ col ∧ col < r3) := hcol
        by_cases hc1 : r1 ≤ col
        · have hc2 : ¬ col < r3 := fun h => hcol ⟨hc1, h⟩
          clear hcol hcol1
          go_wp2_with fail
          (try rw [← HWZ.out])
          refine (Go.Proofs.Ytigofjamednfpaa.example20 _).mono ?_
          rintro e wE ⟨rfl, hBE⟩
          have HBE := Lib.hid (Below.next HBrz.out hBE)
          go_wp2_with fail
          go_ret
          exact ⟨rfl, HBE.out⟩
        · clear hcol hcol1
          go_wp2_with fail
          (try rw [← HWZ.out])
          refine (Go.Proofs.Ytigofjamednfpaa.example20 _).mono ?_
          rintro e wE ⟨rfl, hBE⟩
          have HBE := Lib.hid (Below.next HBrz.out hBE)
          go_wp2_with fail
          go_ret
          exact ⟨rfl, HBE.out⟩
    · by_cases hc0 : r2 ≤ row
      · have hc3 : ¬ row < r4 := fun h => hrow ⟨hc0, h⟩
        clear hrow
        by_cases hcol : r1 ≤ col ∧ col < r3
        · have hcol1 := hcol.1
          have hcol2 := hcol.2
          obtain ⟨c1, c2, hab⟩ := split_col HCK.out hcol.1 hcol.2
          have HA := Lib.hid (HSUB.out _ c1)
          have HC := Lib.hid (HSUB.out _ c2)
          have HT := Lib.hid (HTWO.out _ _ c1 c2 hab)
          obtain ⟨hc1, hc2⟩ := hcol
          clear c1 c2 hab
          go_wp2_with fail
          rw [← HWZ.out]
          clear e1 e2 e3 e4
          refine (over_any (r1) (r2) (col) (r4) a len cap L hl _ (HL.out.later HBz.out)).mono ?_
          rw [HA.out]
          rintro e wca ⟨rfl, hB⟩
          have HFca := Lib.hid (HFz.out.later hB)
          have HXca := Lib.hid (HXz.out.later hB)
          have HBca := Lib.hid (Below.next HBz.out hB)
          clear hB HA
          unfold rights3
          have HT1 := Lib.hid (HT.out RV.rd)
          generalize ovr RV.rd ⟨r1, r2, col, r4⟩ L = ca1 at *
          have HT2 := Lib.hid (HT.out RV.wr)
          generalize ovr RV.wr ⟨r1, r2, col, r4⟩ L = ca2 at *
          have HT3 := Lib.hid (HT.out RV.ow)
          generalize ovr RV.ow ⟨r1, r2, col, r4⟩ L = ca3 at *
          clear HT
          have HFcy := Lib.hid (HFca.out.later (below_alloc wca (.cells #[.int .u64 (ca1.toNat : Int), .int .u64 (ca2.toNat : Int), .int .u64 (ca3.toNat : Int)] 28)))
          have HXcy := Lib.hid (HXca.out.later (below_alloc wca (.cells #[.int .u64 (ca1.toNat : Int), .int .u64 (ca2.toNat : Int), .int .u64 (ca3.toNat : Int)] 28)))
          have HYcy := Lib.hid (Box3.start wca (ca1.toNat : Int) (ca2.toNat : Int) (ca3.toNat : Int) 28)
          have HBcy := Lib.hid (Below.next HBca.out (below_alloc wca (.cells #[.int .u64 (ca1.toNat : Int), .int .u64 (ca2.toNat : Int), .int .u64 (ca3.toNat : Int)] 28)))
          obtain ⟨_, e1, e2, e3, e4⟩ := HFca.out
          go_wp2_with fail
          clear e1 e2 e3 e4
          generalize wca.alloc (.cells #[.int .u64 (ca1.toNat : Int), .int .u64 (ca2.toNat : Int), .int .u64 (ca3.toNat : Int)] 28) = wcy at *
          refine (over_any (col + 1) (r2) (r3) (r4) a len cap L hl _ (HL.out.later HBcy.out)).mono ?_
          rw [HC.out]
          rintro e wcb ⟨rfl, hB⟩
          have HFcb := Lib.hid (HFcy.out.later hB)
          have HXcb := Lib.hid (HXcy.out.later hB)
          have HYcb := Lib.hid (HYcy.out.later hB)
          have HBcb := Lib.hid (Below.next HBcy.out hB)
          clear hB HC HFca HXca HBca HFcy HXcy HYcy HBcy
          unfold rights3
          generalize ovr RV.rd ⟨col + 1, r2, r3, r4⟩ L = cb1 at *
          generalize ovr RV.wr ⟨col + 1, r2, r3, r4⟩ L = cb2 at *
          generalize ovr RV.ow ⟨col + 1, r2, r3, r4⟩ L = cb3 at *
          have q1 : bits .and .u64 (ca1.toNat : Int) (cb1.toNat : Int) = (x1.toNat : Int) := by rw [bits_and, ← HT1.out, HQ1.out]
          have q2 : bits .and .u64 (ca2.toNat : Int) (cb2.toNat : Int) = (x2.toNat : Int) := by rw [bits_and, ← HT2.out, HQ2.out]
          have q3 : bits .and .u64 (ca3.toNat : Int) (cb3.toNat : Int) = (x3.toNat : Int) := by rw [bits_and, ← HT3.out, HQ3.out]
          clear HT1 HT2 HT3
          have HFcz := Lib.hid (HFcb.out.later (below_alloc wcb (.cells #[.int .u64 (cb1.toNat : Int), .int .u64 (cb2.toNat : Int), .int .u64 (cb3.toNat : Int)] 28)))
          have HXcz := Lib.hid (HXcb.out.later (below_alloc wcb (.cells #[.int .u64 (cb1.toNat : Int), .int .u64 (cb2.toNat : Int), .int .u64 (cb3.toNat : Int)] 28)))
          have HBcz := Lib.hid (Below.next HBcb.out (below_alloc wcb (.cells #[.int .u64 (cb1.toNat : Int), .int .u64 (cb2.toNat : Int), .int .u64 (cb3.toNat : Int)] 28)))
          obtain ⟨_, e1, e2, e3, e4⟩ := HFcb.out
          obtain ⟨_, u1, u2, u3⟩ := HXcb.out
          obtain ⟨_, v1, v2, v3⟩ := HYcb.out
          go_wp2_with fail
          (try rw [← HWZ.out])
          refine (Go.Proofs.Ytigofjamednfpaa.example20 _).mono ?_
          rintro e wE ⟨rfl, hBE⟩
          have HBE := Lib.hid (Below.next HBcz.out hBE)
          go_wp2_with fail
          go_ret
          exact ⟨rfl, HBE.out⟩
        · have hcol1 : ¬ (r1 ≤ col ∧ col < r3) := hcol
          by_cases hc1 : r1 ≤ col
          · have hc2 : ¬ col < r3 := fun h => hcol ⟨hc1, h⟩
            clear hcol hcol1
            go_wp2_with fail
            (try rw [← HWZ.out])
            refine (Go.Proofs.Ytigofjamednfpaa.example20 _).mono ?_
            rintro e wE ⟨rfl, hBE⟩
            have HBE := Lib.hid (Below.next HBz.out hBE)
            go_wp2_with fail
            go_ret
            exact ⟨rfl, HBE.out⟩
          · clear hcol hcol1
            go_wp2_with fail
            (try rw [← HWZ.out])
            refine (Go.Proofs.Ytigofjamednfpaa.example20 _).mono ?_
            rintro e wE ⟨rfl, hBE⟩
            have HBE := Lib.hid (Below.next HBz.out hBE)
            go_wp2_with fail
            go_ret
            exact ⟨rfl, HBE.out⟩
      · clear hrow
        by_cases hcol : r1 ≤ col ∧ col < r3
        · have hcol1 := hcol.1
          have hcol2 := hcol.2
          obtain ⟨c1, c2, hab⟩ := split_col HCK.out hcol.1 hcol.2
          have HA := Lib.hid (HSUB.out _ c1)
          have HC := Lib.hid (HSUB.out _ c2)
          have HT := Lib.hid (HTWO.out _ _ c1 c2 hab)
          obtain ⟨hc1, hc2⟩ := hcol
          clear c1 c2 hab
          go_wp2_with fail
          rw [← HWZ.out]
          clear e1 e2 e3 e4
          refine (over_any (r1) (r2) (col) (r4) a len cap L hl _ (HL.out.later HBz.out)).mono ?_
          rw [HA.out]
          rintro e wca ⟨rfl, hB⟩
          have HFca := Lib.hid (HFz.out.later hB)
          have HXca := Lib.hid (HXz.out.later hB)
          have HBca := Lib.hid (Below.next HBz.out hB)
          clear hB HA
          unfold rights3
          have HT1 := Lib.hid (HT.out RV.rd)
          generalize ovr RV.rd ⟨r1, r2, col, r4⟩ L = ca1 at *
          have HT2 := Lib.hid (HT.out RV.wr)
          generalize ovr RV.wr ⟨r1, r2, col, r4⟩ L = ca2 at *
          have HT3 := Lib.hid (HT.out RV.ow)
          generalize ovr RV.ow ⟨r1, r2, col, r4⟩ L = ca3 at *
          clear HT
          have HFcy := Lib.hid (HFca.out.later (below_alloc wca (.cells #[.int .u64 (ca1.toNat : Int), .int .u64 (ca2.toNat : Int), .int .u64 (ca3.toNat : Int)] 28)))
          have HXcy := Lib.hid (HXca.out.later (below_alloc wca (.cells #[.int .u64 (ca1.toNat : Int), .int .u64 (ca2.toNat : Int), .int .u64 (ca3.toNat : Int)] 28)))
          have HYcy := Lib.hid (Box3.start wca (ca1.toNat : Int) (ca2.toNat : Int) (ca3.toNat : Int) 28)
          have HBcy := Lib.hid (Below.next HBca.out (below_alloc wca (.cells #[.int .u64 (ca1.toNat : Int), .int .u64 (ca2.toNat : Int), .int .u64 (ca3.toNat : Int)] 28)))
          obtain ⟨_, e1, e2, e3, e4⟩ := HFca.out
          go_wp2_with fail
          clear e1 e2 e3 e4
          generalize wca.alloc (.cells #[.int .u64 (ca1.toNat : Int), .int .u64 (ca2.toNat : Int), .int .u64 (ca3.toNat : Int)] 28) = wcy at *
          refine (over_any (col + 1) (r2) (r3) (r4) a len cap L hl _ (HL.out.later HBcy.out)).mono ?_
          rw [HC.out]
          rintro e wcb ⟨rfl, hB⟩
          have HFcb := Lib.hid (HFcy.out.later hB)
          have HXcb := Lib.hid (HXcy.out.later hB)
          have HYcb := Lib.hid (HYcy.out.later hB)
          have HBcb := Lib.hid (Below.next HBcy.out hB)
          clear hB HC HFca HXca HBca HFcy HXcy HYcy HBcy
          unfold rights3
          generalize ovr RV.rd ⟨col + 1, r2, r3, r4⟩ L = cb1 at *
          generalize ovr RV.wr ⟨col + 1, r2, r3, r4⟩ L = cb2 at *
          generalize ovr RV.ow ⟨col + 1, r2, r3, r4⟩ L = cb3 at *
          have q1 : bits .and .u64 (ca1.toNat : Int) (cb1.toNat : Int) = (x1.toNat : Int) := by rw [bits_and, ← HT1.out, HQ1.out]
          have q2 : bits .and .u64 (ca2.toNat : Int) (cb2.toNat : Int) = (x2.toNat : Int) := by rw [bits_and, ← HT2.out, HQ2.out]
          have q3 : bits .and .u64 (ca3.toNat : Int) (cb3.toNat : Int) = (x3.toNat : Int) := by rw [bits_and, ← HT3.out, HQ3.out]
          clear HT1 HT2 HT3
          have HFcz := Lib.hid (HFcb.out.later (below_alloc wcb (.cells #[.int .u64 (cb1.toNat : Int), .int .u64 (cb2.toNat : Int), .int .u64 (cb3.toNat : Int)] 28)))
          have HXcz := Lib.hid (HXcb.out.later (below_alloc wcb (.cells #[.int .u64 (cb1.toNat : Int), .int .u64 (cb2.toNat : Int), .int .u64 (cb3.toNat : Int)] 28)))
          have HBcz := Lib.hid (Below.next HBcb.out (below_alloc wcb (.cells #[.int .u64 (cb1.toNat : Int), .int .u64 (cb2.toNat : Int), .int .u64 (cb3.toNat : Int)] 28)))
          obtain ⟨_, e1, e2, e3, e4⟩ := HFcb.out
          obtain ⟨_, u1, u2, u3⟩ := HXcb.out
          obtain ⟨_, v1, v2, v3⟩ := HYcb.out
          go_wp2_with fail
          (try rw [← HWZ.out])
          refine (Go.Proofs.Ytigofjamednfpaa.example20 _).mono ?_
          rintro e wE ⟨rfl, hBE⟩
          have HBE := Lib.hid (Below.next HBcz.out hBE)
          go_wp2_with fail
          go_ret
          exact ⟨rfl, HBE.out⟩
        · have hcol1 : ¬ (r1 ≤ col ∧ col < r3) := hcol
          by_cases hc1 : r1 ≤ col
          · have hc2 : ¬ col < r3 := fun h => hcol ⟨hc1, h⟩
            clear hcol hcol1
            go_wp2_with fail
            (try rw [← HWZ.out])
            refine (Go.Proofs.Ytigofjamednfpaa.example20 _).mono ?_
            rintro e wE ⟨rfl, hBE⟩
            have HBE := Lib.hid (Below.next HBz.out hBE)
            go_wp2_with fail
            go_ret
            exact ⟨rfl, HBE.out⟩
          · clear hcol hcol1
            go_wp2_with fail
            (try rw [← HWZ.out])
            refine (Go.Proofs.Ytigofjamednfpaa.example20 _).mono ?_
            rintro e wE ⟨rfl, hBE⟩
            have HBE := Lib.hid (Below.next HBz.out hBE)
            go_wp2_with fail
            go_ret
            exact ⟨rfl, HBE.out⟩
end Go.Proofs.Ytigofjamednfpaa.Re
