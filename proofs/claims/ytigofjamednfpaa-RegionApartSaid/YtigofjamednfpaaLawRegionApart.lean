/- The walk of the law. -/
import Derived.Test.YtigofjamednfpaaOverH
import Derived.Test.YtigofjamednfpaaClosed
import Derived.Test.YtigofjamednfpaaCame
import Derived.Deep.CutRange
namespace Go.Proofs.Ytigofjamednfpaa.Re
open Go.RowKit AM
set_option maxRecDepth 100000 in
set_option maxHeartbeats 6400000 in
theorem regionApart_any (r1 r2 r3 r4 : Int) (a : Option Addr) (len cap : Nat) (L : List RV) (x : RV) (w : World) (hL : IsL w a len L) (hm : len * 56 ≤ 140737488351232) :
    Calls Try.prog 6 #[.agg #[.int .i64 r1, .int .i64 r2, .int .i64 r3, .int .i64 r4], .slice a len cap, .agg (cells7 x).toArray] w fun e w' => e = .returned (.bool true) ∧ Below w.heap.size w w' := by
  have HL := Lib.hid hL
  have HLL := Lib.hid hL.1
  clear hL
  have HAP : Hid (gcE ⟨r1, r2, r3, r4⟩ L = 0 → gcE ⟨r1, r2, r3, r4⟩ (L ++ [x]) = 0 → (x.c1 > r3 ∨ r1 > x.c2 ∨ x.r1 > r4 ∨ r2 > x.r2) → ∀ f : RV → W64, ovr f ⟨r1, r2, r3, r4⟩ (L ++ [x]) = ovr f ⟨r1, r2, r3, r4⟩ L) := fun h1 h2 h3 f => ovr_apart h1 h2 h3
  have HWH : Hid (gcE ⟨r1, r2, r3, r4⟩ L = 0 → gcE ⟨r1, r2, r3, r4⟩ (L ++ [x]) = 0 → x.c1 ≤ r1 → r3 ≤ x.c2 → x.r1 ≤ r2 → r4 ≤ x.r2 → ∀ f : RV → W64, ovr f ⟨r1, r2, r3, r4⟩ (L ++ [x]) = f x) := fun h1 h2 h3 h4 h5 h6 f => ovr_whole h1 h2 h3 h4 h5 h6
  have HPT : Hid (gcE ⟨r1, r2, r3, r4⟩ L = 0 → gcE ⟨r1, r2, r3, r4⟩ (L ++ [x]) = 0 → ¬ (x.c1 > r3 ∨ r1 > x.c2 ∨ x.r1 > r4 ∨ r2 > x.r2) → ∀ f : RV → W64, ovr f ⟨r1, r2, r3, r4⟩ (L ++ [x]) &&& ~~~(f x) = 0#64) := fun h1 h2 h3 f => ovr_part h1 h2 h3
  obtain ⟨M, hM⟩ : ∃ M, M = L ++ [x] := ⟨_, rfl⟩
  have HM := Lib.hid hM
  have HML : Hid (M.length = len + 1) := by unfold Hid; rw [hM, List.length_append, HLL.out]; rfl
  rw [← hM] at HAP HWH HPT
  clear hM
  have HF0 := Lib.hid ((Four.start w r1 r2 r3 r4 23).later (below_alloc _ (.cells (cells7 x).toArray 45)))
  have HX0 := Lib.hid (Box7.start (w.alloc (.cells #[.int .i64 r1, .int .i64 r2, .int .i64 r3, .int .i64 r4] 23)) x 45)
  have HB0 := Lib.hid (Below.next (below_alloc w (.cells #[.int .i64 r1, .int .i64 r2, .int .i64 r3, .int .i64 r4] 23)) (below_alloc _ (.cells (cells7 x).toArray 45)))
  rw [World.size_alloc] at HX0
  obtain ⟨y1, y2, y3, y4, y5, y6, y7⟩ := x
  unfold cells7 at *
  dsimp only at *
  go_enter Try.func6, Try.ntmps6
  go_wp2_with fail
  generalize (w.alloc (.cells #[.int .i64 r1, .int .i64 r2, .int .i64 r3, .int .i64 r4] 23)).alloc (.cells #[.int .i64 y1, .int .i64 y2, .int .i64 y3, .int .i64 y4, .int .u64 (y5.toNat : Int), .int .u64 (y6.toNat : Int), .int .u64 (y7.toNat : Int)] 45) = w0 at *
  refine wp_region_seqo (fun X => Below w0.heap.size w0 X) w0.heap.size
    [fbC (.slice a len cap), fbL 45 cells7 7 w0.heap.size L, fbC (.agg #[.int .i64 y1, .int .i64 y2, .int .i64 y3, .int .i64 y4, .int .u64 (y5.toNat : Int), .int .u64 (y6.toNat : Int), .int .u64 (y7.toNat : Int)]), fbN (fun g => .slice (some ⟨g, 0, none⟩) 1 1) w0.heap.size (.cells #[.int .i64 y1, .int .i64 y2, .int .i64 y3, .int .i64 y4, .int .u64 (y5.toNat : Int), .int .u64 (y6.toNat : Int), .int .u64 (y7.toNat : Int)] 45), fbL 45 cells7 7 w0.heap.size M, fbL 45 cells7 7 w0.heap.size M]
    [[], [], [], [], [1], [4]] [[], [], [], [], [], []] [[], [0], [], [2], [1, 3], [4]]
    (fun a b h k => k.trans h) (by kernel_rfl) (by kernel_rfl) (by kernel_rfl) ⟨rfl, rfl, rfl, Nat.le_refl _, fun _ _ => rfl⟩ (Nat.le_refl _) ?_ (by kernel_rfl)
    ⟨good_C _ _, good_L _, good_C _ _, good_N _ (fun _ => rfl), good_L _, good_L _, trivial⟩ (Nat.le_refl 6)
  simp only [putsL, Act.put, List.setIfInBounds_toArray, List.set_cons_zero, List.set_cons_succ, Nat.zero_add, Nat.reduceAdd]
  refine seqo_cons (obo_run rfl (fun vs W hD => rfl) (fun vs W hS hD => ?_)) ?_
  · go_simp; done
  refine seqo_cons (obo_list rfl (f := 11) (fun vs => #[.slice a len cap]) (fun vs W hD => rfl) (fun vs W hS hD => ?_) (fun vs W hS hZ hD => ?_)) ?_
  · have h1 : vs 0 = _ := hD.1
    go_simp; done
  · exact copyrules_any a len cap L (by omega) W ((HL.out.later HB0.out).later hS)
  refine seqo_cons (obo_run rfl (fun vs W hD => rfl) (fun vs W hS hD => ?_)) ?_
  · obtain ⟨_, d1, d2, d3, d4, d5, d6, d7⟩ := HX0.out.later hS
    dsimp only at d1 d2 d3 d4 d5 d6 d7
    go_simp; done
  refine seqo_cons (obo_new rfl (fun _ => rfl) (fun vs W hD => rfl) (fun vs W hS hD => ?_)) ?_
  · have h1 : vs 2 = _ := hD.1
    go_simp; done
  refine seqo_cons (obo_app (M := L) (N := [⟨y1, y2, y3, y4, y5, y6, y7⟩]) (j := 1) (by rw [← HM.out]; rfl) rfl (by decide) (fun vs W hD => rfl) (.tmp 13) (.tmp 15) 24 rfl Try.underlying24 _ 56 infoRule zero7 (by decide) (by decide) cells7_len cells7_one 1 (by rw [HLL.out]; omega) (fun vs W hS hZ hD => ?_)) ?_
  · obtain ⟨h2, ⟨g, h4, hg, hh⟩, _⟩ := hD
    exact ⟨rfl, h2, some ⟨g, 0, none⟩, 1, h4, isOf_heap hh rfl⟩
  refine seqo_cons (obo_mv (j := 4) rfl rfl (by decide) (fun vs W hD => rfl) (fun vs W hS hD => ⟨?_, hD.1⟩)) ?_
  · go_simp; done
  refine seqo_end fun vs W hS hZ hv => ?_
  obtain ⟨k0, k1, k2, k3, k4, k5, kz⟩ := hv
  have h0 : vs 0 = _ := k0 rfl
  have h2 : vs 2 = _ := k2 rfl
  have ho := k5 rfl
  obtain ⟨ma, mc, hv5, hmi⟩ := OwnOf.isOf cells7_len ho
  rw [HML.out] at hv5 hmi
  have HF1 := Lib.hid (HF0.out.later hS)
  have HX1 := Lib.hid (HX0.out.later hS)
  have HB1 := Lib.hid (Below.next HB0.out hS)
  have HM1 := Lib.hid hmi
  have hz0 := HB0.out.size
  simp only [h0, h2, hv5]
  clear h0 h2 k0 k1 k2 k3 k4 k5 kz ho hv5 hmi hS hZ HF0 HX0
  obtain ⟨_, e1, e2, e3, e4⟩ := HF1.out
  go_wp2_with fail
  refine (valid20_any r1 r2 r3 r4 a len cap L _ (HL.out.later HB1.out)).mono ?_
  rintro e w2 ⟨rfl, hB⟩
  have HF2 := Lib.hid (HF1.out.later hB)
  have HX2 := Lib.hid (HX1.out.later hB)
  have HM2 := Lib.hid (HM1.out.later hB)
  have HB2 := Lib.hid (Below.next HB1.out hB)
  clear hB HF1 HX1 HM1 HB1 e1 e2 e3 e4
  cases hok : okA ⟨r1, r2, r3, r4⟩ L
  · clear hok
    go_wp2_with fail
    go_ret
    exact ⟨rfl, HB2.out⟩
  · obtain ⟨h40, hg⟩ := okA_iff.1 hok
    have hl : len ≤ 40 := by have := HLL.out; omega
    have HG := Lib.hid hg
    clear hok h40 hg
    obtain ⟨_, e1, e2, e3, e4⟩ := HF2.out
    go_wp2_with fail
    refine (valid20_any r1 r2 r3 r4 ma (len + 1) mc M _ HM2.out).mono ?_
    rintro e w3 ⟨rfl, hB⟩
    have HF3 := Lib.hid (HF2.out.later hB)
    have HX3 := Lib.hid (HX2.out.later hB)
    have HM3 := Lib.hid (HM2.out.later hB)
    have HB3 := Lib.hid (Below.next HB2.out hB)
    clear hB HF2 HX2 HM2 HB2 e1 e2 e3 e4
    cases hok : okA ⟨r1, r2, r3, r4⟩ M
    · clear hok
      go_wp2_with fail
      go_ret
      exact ⟨rfl, HB3.out⟩
    · obtain ⟨_, hg⟩ := okA_iff.1 hok
      have HGM := Lib.hid hg
      clear hok hg
      have HEA : Hid (overV ⟨r1, r2, r3, r4⟩ L = .tuple #[rights3 (ovr RV.rd ⟨r1, r2, r3, r4⟩ L) (ovr RV.wr ⟨r1, r2, r3, r4⟩ L) (ovr RV.ow ⟨r1, r2, r3, r4⟩ L), .int .i64 0]) := by
        unfold Hid overV ovV; rw [HG.out, if_pos rfl, if_pos rfl, if_pos rfl]
      have HEM : Hid (overV ⟨r1, r2, r3, r4⟩ M = .tuple #[rights3 (ovr RV.rd ⟨r1, r2, r3, r4⟩ M) (ovr RV.wr ⟨r1, r2, r3, r4⟩ M) (ovr RV.ow ⟨r1, r2, r3, r4⟩ M), .int .i64 0]) := by
        unfold Hid overV ovV; rw [HGM.out, if_pos rfl, if_pos rfl, if_pos rfl]
      have HQP := Lib.hid (HAP.out HG.out HGM.out)
      have HQW := Lib.hid (HWH.out HG.out HGM.out)
      have HQT := Lib.hid (HPT.out HG.out HGM.out)
      clear HAP HWH HPT
      obtain ⟨_, e1, e2, e3, e4⟩ := HF3.out
      go_wp2_with fail
      refine (over_any r1 r2 r3 r4 a len cap L (by omega) _ (HL.out.later HB3.out)).mono ?_
      rw [HEA.out]
      rintro e w4 ⟨rfl, hB⟩
      have HF4 := Lib.hid (HF3.out.later hB)
      have HX4 := Lib.hid (HX3.out.later hB)
      have HM4 := Lib.hid (HM3.out.later hB)
      have HB4 := Lib.hid (Below.next HB3.out hB)
      clear hB HF3 HX3 HM3 HB3 HEA e1 e2 e3 e4
      unfold rights3
      have HQP1 := Lib.hid (fun h => HQP.out h RV.rd)
      have HQP2 := Lib.hid (fun h => HQP.out h RV.wr)
      have HQP3 := Lib.hid (fun h => HQP.out h RV.ow)
      generalize ovr RV.rd ⟨r1, r2, r3, r4⟩ L = A1 at *
      generalize ovr RV.wr ⟨r1, r2, r3, r4⟩ L = A2 at *
      generalize ovr RV.ow ⟨r1, r2, r3, r4⟩ L = A3 at *
      clear HQP
      have HF4y := Lib.hid (HF4.out.later (below_alloc w4 (.cells #[.int .u64 (A1.toNat : Int), .int .u64 (A2.toNat : Int), .int .u64 (A3.toNat : Int)] 28)))
      have HX4y := Lib.hid (HX4.out.later (below_alloc w4 (.cells #[.int .u64 (A1.toNat : Int), .int .u64 (A2.toNat : Int), .int .u64 (A3.toNat : Int)] 28)))
      have HM4y := Lib.hid (HM4.out.later (below_alloc w4 (.cells #[.int .u64 (A1.toNat : Int), .int .u64 (A2.toNat : Int), .int .u64 (A3.toNat : Int)] 28)))
      have HA4y := Lib.hid (Box3.start w4 (A1.toNat : Int) (A2.toNat : Int) (A3.toNat : Int) 28)
      have HB4y := Lib.hid (Below.next HB4.out (below_alloc w4 (.cells #[.int .u64 (A1.toNat : Int), .int .u64 (A2.toNat : Int), .int .u64 (A3.toNat : Int)] 28)))
      obtain ⟨_, e1, e2, e3, e4⟩ := HF4.out
      go_wp2_with fail
      generalize w4.alloc (.cells #[.int .u64 (A1.toNat : Int), .int .u64 (A2.toNat : Int), .int .u64 (A3.toNat : Int)] 28) = w4y at *
      refine (over_any r1 r2 r3 r4 ma (len + 1) mc M (by omega) _ HM4y.out).mono ?_
      rw [HEM.out]
      rintro e w5 ⟨rfl, hB⟩
      have HF5 := Lib.hid (HF4y.out.later hB)
      have HX5 := Lib.hid (HX4y.out.later hB)
      have HA5 := Lib.hid (HA4y.out.later hB)
      have HB5 := Lib.hid (Below.next HB4y.out hB)
      clear hB HF4 HX4 HM4 HB4 HF4y HX4y HM4y HA4y HB4y HEM e1 e2 e3 e4
      unfold rights3
      have HQW1 := Lib.hid (fun h1 h2 h3 h4 => HQW.out h1 h2 h3 h4 RV.rd)
      have HQW2 := Lib.hid (fun h1 h2 h3 h4 => HQW.out h1 h2 h3 h4 RV.wr)
      have HQW3 := Lib.hid (fun h1 h2 h3 h4 => HQW.out h1 h2 h3 h4 RV.ow)
      have HQT1 := Lib.hid (fun h => HQT.out h RV.rd)
      have HQT2 := Lib.hid (fun h => HQT.out h RV.wr)
      have HQT3 := Lib.hid (fun h => HQT.out h RV.ow)
      generalize ovr RV.rd ⟨r1, r2, r3, r4⟩ M = B1 at *
      generalize ovr RV.wr ⟨r1, r2, r3, r4⟩ M = B2 at *
      generalize ovr RV.ow ⟨r1, r2, r3, r4⟩ M = B3 at *
      clear HQW HQT
      have HB6 := Lib.hid (Below.next HB5.out (below_alloc w5 (.cells #[.int .u64 (B1.toNat : Int), .int .u64 (B2.toNat : Int), .int .u64 (B3.toNat : Int)] 28)))
      obtain ⟨_, e1, e2, e3, e4⟩ := HF5.out
      obtain ⟨_, d1, d2, d3, d4, d5, d6, d7⟩ := HX5.out
      obtain ⟨_, u1, u2, u3⟩ := HA5.out
      dsimp only at *
      by_cases h0 : y1 > r3
      · have a1 := HQP1.out (.inl h0)
        have a2 := HQP2.out (.inl h0)
        have a3 := HQP3.out (.inl h0)
        subst a1 a2 a3
        clear HQP1 HQP2 HQP3 HQW1 HQW2 HQW3 HQT1 HQT2 HQT3
        go_wp2_with fail
        refine (Go.Proofs.Ytigofjamednfpaa.example20 _).mono ?_
        rintro e wE ⟨rfl, hBE⟩
        have HBE := Lib.hid (Below.next HB6.out hBE)
        go_wp2_with fail
        go_ret
        exact ⟨rfl, HBE.out⟩
      · skip
        by_cases h1 : r1 > y3
        · have a1 := HQP1.out (.inr (.inl h1))
          have a2 := HQP2.out (.inr (.inl h1))
          have a3 := HQP3.out (.inr (.inl h1))
          subst a1 a2 a3
          clear HQP1 HQP2 HQP3 HQW1 HQW2 HQW3 HQT1 HQT2 HQT3
          go_wp2_with fail
          refine (Go.Proofs.Ytigofjamednfpaa.example20 _).mono ?_
          rintro e wE ⟨rfl, hBE⟩
          have HBE := Lib.hid (Below.next HB6.out hBE)
          go_wp2_with fail
          go_ret
          exact ⟨rfl, HBE.out⟩
        · skip
          by_cases h2 : y2 > r4
          · have a1 := HQP1.out (.inr (.inr (.inl h2)))
            have a2 := HQP2.out (.inr (.inr (.inl h2)))
            have a3 := HQP3.out (.inr (.inr (.inl h2)))
            subst a1 a2 a3
            clear HQP1 HQP2 HQP3 HQW1 HQW2 HQW3 HQT1 HQT2 HQT3
            go_wp2_with fail
            refine (Go.Proofs.Ytigofjamednfpaa.example20 _).mono ?_
            rintro e wE ⟨rfl, hBE⟩
            have HBE := Lib.hid (Below.next HB6.out hBE)
            go_wp2_with fail
            go_ret
            exact ⟨rfl, HBE.out⟩
          · skip
            by_cases h3 : r2 > y4
            · have a1 := HQP1.out (.inr (.inr (.inr h3)))
              have a2 := HQP2.out (.inr (.inr (.inr h3)))
              have a3 := HQP3.out (.inr (.inr (.inr h3)))
              subst a1 a2 a3
              clear HQP1 HQP2 HQP3 HQW1 HQW2 HQW3 HQT1 HQT2 HQT3
              go_wp2_with fail
              refine (Go.Proofs.Ytigofjamednfpaa.example20 _).mono ?_
              rintro e wE ⟨rfl, hBE⟩
              have HBE := Lib.hid (Below.next HB6.out hBE)
              go_wp2_with fail
              go_ret
              exact ⟨rfl, HBE.out⟩
            · skip
              have hno : ¬ (y1 > r3 ∨ r1 > y3 ∨ y2 > r4 ∨ r2 > y4) := by omega
              have t1 := HQT1.out hno
              have t2 := HQT2.out hno
              have t3 := HQT3.out hno
              have q1 : bits .andNot .u64 (B1.toNat : Int) (y5.toNat : Int) = 0 := by rw [bits_andNot, t1]; rfl
              have q2 : bits .andNot .u64 (B2.toNat : Int) (y6.toNat : Int) = 0 := by rw [bits_andNot, t2]; rfl
              have q3 : bits .andNot .u64 (B3.toNat : Int) (y7.toNat : Int) = 0 := by rw [bits_andNot, t3]; rfl
              clear hno t1 t2 t3 HQP1 HQP2 HQP3 HQT1 HQT2 HQT3
              by_cases g0 : y1 ≤ r1
              · skip
                by_cases g1 : r3 ≤ y3
                · skip
                  by_cases g2 : y2 ≤ r2
                  · skip
                    by_cases g3 : r4 ≤ y4
                    · skip
                      have b1 := HQW1.out g0 g1 g2 g3
                      have b2 := HQW2.out g0 g1 g2 g3
                      have b3 := HQW3.out g0 g1 g2 g3
                      subst b1 b2 b3
                      clear HQW1 HQW2 HQW3
                      go_wp2_with fail
                      refine (Go.Proofs.Ytigofjamednfpaa.example20 _).mono ?_
                      rintro e wE ⟨rfl, hBE⟩
                      have HBE := Lib.hid (Below.next HB6.out hBE)
                      go_wp2_with fail
                      go_ret
                      exact ⟨rfl, HBE.out⟩
                    · clear HQW1 HQW2 HQW3
                      go_wp2_with fail
                      refine (Go.Proofs.Ytigofjamednfpaa.example20 _).mono ?_
                      rintro e wE ⟨rfl, hBE⟩
                      have HBE := Lib.hid (Below.next HB6.out hBE)
                      go_wp2_with fail
                      go_ret
                      exact ⟨rfl, HBE.out⟩
                  · clear HQW1 HQW2 HQW3
                    go_wp2_with fail
                    refine (Go.Proofs.Ytigofjamednfpaa.example20 _).mono ?_
                    rintro e wE ⟨rfl, hBE⟩
                    have HBE := Lib.hid (Below.next HB6.out hBE)
                    go_wp2_with fail
                    go_ret
                    exact ⟨rfl, HBE.out⟩
                · clear HQW1 HQW2 HQW3
                  go_wp2_with fail
                  refine (Go.Proofs.Ytigofjamednfpaa.example20 _).mono ?_
                  rintro e wE ⟨rfl, hBE⟩
                  have HBE := Lib.hid (Below.next HB6.out hBE)
                  go_wp2_with fail
                  go_ret
                  exact ⟨rfl, HBE.out⟩
              · clear HQW1 HQW2 HQW3
                go_wp2_with fail
                refine (Go.Proofs.Ytigofjamednfpaa.example20 _).mono ?_
                rintro e wE ⟨rfl, hBE⟩
                have HBE := Lib.hid (Below.next HB6.out hBE)
                go_wp2_with fail
                go_ret
                exact ⟨rfl, HBE.out⟩
end Go.Proofs.Ytigofjamednfpaa.Re
