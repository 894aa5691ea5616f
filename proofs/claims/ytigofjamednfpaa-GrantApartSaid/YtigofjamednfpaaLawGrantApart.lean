/- The walk of the law. -/
import Derived.Test.YtigofjamednfpaaOverH
import Derived.Test.YtigofjamednfpaaGraC
import Derived.Test.YtigofjamednfpaaClosed
import Derived.Test.YtigofjamednfpaaCameG
import Derived.Deep.CutRange
namespace Go.Proofs.Ytigofjamednfpaa.Re
open Go.RowKit AM
theorem tmod_bit (x : W64) (n : Nat) : ((x.toNat : Int) / 2 ^ n).tmod 2 = if x.getLsbD n then 1 else 0 := by
  have h1 : x.getLsbD n = decide (x.toNat / 2 ^ n % 2 = 1) := by
    rw [← BitVec.testBit_toNat, Nat.testBit_eq_decide_div_mod_eq]
  have h2 : ((x.toNat : Int) / 2 ^ n) = ((x.toNat / 2 ^ n : Nat) : Int) := by simp
  rw [h1, h2]
  generalize x.toNat / 2 ^ n = m
  rw [Int.tmod_eq_emod_of_nonneg (by omega)]
  by_cases h : m % 2 = 1
  · rw [decide_eq_true h, if_pos rfl]; omega
  · rw [decide_eq_false h, if_neg (by decide)]; omega
theorem lv_apart {g : GV} {L : List RV} {x : RV} (h : okG 64 g = true) (hL : (rck 64 L).2 = 0) (hM : (rck 64 (L ++ [x])).2 = 0) (ha : x.c1 > g.c2 ∨ g.c1 > x.c2 ∨ x.r1 > g.r2 ∨ g.r1 > x.r2) : lvB g (L ++ [x]) = lvB g L := by
  obtain ⟨h1, _, _⟩ := okG_parts h
  rw [(lv_good h hL).2, (lv_good h hM).2, ovr_apart (r := gr4 g) (gcE_zero.2 ⟨h1, hL⟩) (gcE_zero.2 ⟨h1, hM⟩) ha]
theorem lv_dead {g : GV} {L : List RV} {x : RV} (h : okG 64 g = true) (hL : (rck 64 L).2 = 0) (hM : (rck 64 (L ++ [x])).2 = 0) (ha : ¬ (x.c1 > g.c2 ∨ g.c1 > x.c2 ∨ x.r1 > g.r2 ∨ g.r1 > x.r2)) (hb : x.ow.getLsbD g.by_.toNat = false) : lvB g (L ++ [x]) = false := by
  obtain ⟨h1, h2, h3⟩ := okG_parts h
  rw [(lv_good h hM).2]
  have hp := ovr_part (f := RV.ow) (r := gr4 g) (gcE_zero.2 ⟨h1, hL⟩) (gcE_zero.2 ⟨h1, hM⟩) ha
  have hp := congrArg (·.getLsbD g.by_.toNat) hp
  have hi : g.by_.toNat < 64 := by omega
  simp only [BitVec.getLsbD_and, BitVec.getLsbD_not, hi, decide_true, BitVec.getLsbD_zero, hb, Bool.not_false, Bool.and_true] at hp
  rw [hp]; rfl
set_option maxRecDepth 100000 in
set_option maxHeartbeats 6400000 in
theorem grantApart_any (a : Option Addr) (len cap : Nat) (L : List RV) (x : RV) (g : GV) (w : World) (hL : IsL w a len L) (hm : len * 56 ≤ 140737488351232) :
    Calls Try.prog 10 #[.slice a len cap, .agg (cells7 x).toArray, .agg (cells8 g).toArray] w fun e w' => e = .returned (.bool true) ∧ Below w.heap.size w w' := by
  have HL := Lib.hid hL
  have HLL := Lib.hid hL.1
  clear hL
  have HGD : Hid (okA21 L [g] = true → (rck 64 L).2 = 0 ∧ okG 64 g = true ∧ L.length ≤ 20) := fun h => by
    obtain ⟨h1, h2, h3, _⟩ := okA21_iff.1 h
    exact ⟨h1, (gck_good h2).2 0 (by simp), h3⟩
  have HAP : Hid (okG 64 g = true → (rck 64 L).2 = 0 → (rck 64 (L ++ [x])).2 = 0 → (x.c1 > g.c2 ∨ g.c1 > x.c2 ∨ x.r1 > g.r2 ∨ g.r1 > x.r2) → lvB g (L ++ [x]) = lvB g L) := lv_apart
  have HDE : Hid (okG 64 g = true → (rck 64 L).2 = 0 → (rck 64 (L ++ [x])).2 = 0 → ¬ (x.c1 > g.c2 ∨ g.c1 > x.c2 ∨ x.r1 > g.r2 ∨ g.r1 > x.r2) → x.ow.getLsbD g.by_.toNat = false → lvB g (L ++ [x]) = false) := lv_dead
  have HLG : Hid (okG 64 g = true → ∀ M : List RV, (rck 64 M).2 = 0 → lvE g M = 0) := fun h M hM => (lv_good h hM).1
  have HBY : Hid (okG 64 g = true → 0 ≤ g.by_ ∧ g.by_ < 64) := fun h => (okG_parts h).2
  have HCV := Lib.hid (fun (a : Option Addr) (len cap : Nat) (L : List RV) (hl : len ≤ 100000) (w : World) (hL : IsL w a len L) => plive_any g a len cap L hl w hL)
  obtain ⟨M, hM⟩ : ∃ M, M = L ++ [x] := ⟨_, rfl⟩
  have HM := Lib.hid hM
  have HML : Hid (M.length = len + 1) := by unfold Hid; rw [hM, List.length_append, HLL.out]; rfl
  rw [← hM] at HAP HDE
  clear hM
  have HX0 := Lib.hid ((Box7.start w x 45).later (below_alloc _ (.cells (cells8 g).toArray 62)))
  have HG0 := Lib.hid (Box8.start (w.alloc (.cells (cells7 x).toArray 45)) g 62)
  have HB0 := Lib.hid (Below.next (below_alloc w (.cells (cells7 x).toArray 45)) (below_alloc _ (.cells (cells8 g).toArray 62)))
  rw [World.size_alloc] at HG0
  have HIG : Hid (∀ W : World, IsG (W.alloc (.cells (cells8 g).toArray 62)) (some ⟨W.heap.size, 0, none⟩) 1 [g]) := fun W => isOf_new W _ _ g rfl
  obtain ⟨y1, y2, y3, y4, y5, y6, y7⟩ := x
  obtain ⟨x1, x2, x3, x4, x5, x6, x7, x8⟩ := g
  unfold cells7 cells8 at *
  dsimp only at *
  go_enter Try.func10, Try.ntmps10
  go_wp2_with fail
  generalize (w.alloc (.cells #[.int .i64 y1, .int .i64 y2, .int .i64 y3, .int .i64 y4, .int .u64 (y5.toNat : Int), .int .u64 (y6.toNat : Int), .int .u64 (y7.toNat : Int)] 45)).alloc (.cells #[.int .i64 x1, .int .i64 x2, .int .i64 x3, .int .i64 x4, .int .u8 (x5.toNat : Int), .int .u64 (x6.toNat : Int), .int .i64 x7, .bool x8] 62) = w0 at *
  refine wp_region_seqo (fun X => Below w0.heap.size w0 X) w0.heap.size
    [fbC (.slice a len cap), fbL 45 cells7 7 w0.heap.size L, fbC (.agg #[.int .i64 y1, .int .i64 y2, .int .i64 y3, .int .i64 y4, .int .u64 (y5.toNat : Int), .int .u64 (y6.toNat : Int), .int .u64 (y7.toNat : Int)]), fbN (fun g => .slice (some ⟨g, 0, none⟩) 1 1) w0.heap.size (.cells #[.int .i64 y1, .int .i64 y2, .int .i64 y3, .int .i64 y4, .int .u64 (y5.toNat : Int), .int .u64 (y6.toNat : Int), .int .u64 (y7.toNat : Int)] 45), fbL 45 cells7 7 w0.heap.size M, fbL 45 cells7 7 w0.heap.size M]
    [[], [], [], [], [1], [4]] [[], [], [], [], [], []] [[], [0], [], [2], [1, 3], [4]]
    (fun a b h k => k.trans h) (by kernel_rfl) (by kernel_rfl) (by kernel_rfl) ⟨rfl, rfl, rfl, Nat.le_refl _, fun _ _ => rfl⟩ (Nat.le_refl _) ?_ (by kernel_rfl)
    ⟨good_C _ _, good_L _, good_C _ _, good_N _ (fun _ => rfl), good_L _, good_L _, trivial⟩ (Nat.le_refl 6)
  simp only [putsL, Act.put, List.setIfInBounds_toArray, List.set_cons_zero, List.set_cons_succ, Nat.zero_add, Nat.reduceAdd]
  refine seqo_cons (obo_run rfl (fun vs W hD => rfl) (fun vs W hS hD => ?_)) ?_
  · go_simp; done
  refine seqo_cons (obo_list rfl (f := 11) (fun vs => #[.slice a len cap]) (fun vs W hD => rfl) (fun vs W hS hD => ?_) (fun vs W hS hZ hD => ?_)) ?_
  · have h1 : vs 0 = _ := hD.1
    go_simp; done
  · exact copyrules_any a len cap L (by omega) W ((HL.out.later HB0.out).later hS)
  refine seqo_cons (obo_run rfl (fun vs W hD => rfl) (fun vs W hS hD => ?_)) ?_
  · obtain ⟨_, d1, d2, d3, d4, d5, d6, d7⟩ := HX0.out.later hS
    dsimp only at d1 d2 d3 d4 d5 d6 d7
    go_simp; done
  refine seqo_cons (obo_new rfl (fun _ => rfl) (fun vs W hD => rfl) (fun vs W hS hD => ?_)) ?_
  · have h1 : vs 2 = _ := hD.1
    go_simp; done
  refine seqo_cons (obo_app (M := L) (N := [⟨y1, y2, y3, y4, y5, y6, y7⟩]) (j := 1) (by rw [← HM.out]; rfl) rfl (by decide) (fun vs W hD => rfl) (.tmp 14) (.tmp 16) 24 rfl Try.underlying24 _ 56 infoRule zero7 (by decide) (by decide) cells7_len cells7_one 1 (by rw [HLL.out]; omega) (fun vs W hS hZ hD => ?_)) ?_
  · obtain ⟨h2, ⟨g, h4, hg, hh⟩, _⟩ := hD
    exact ⟨rfl, h2, some ⟨g, 0, none⟩, 1, h4, isOf_heap hh rfl⟩
  refine seqo_cons (obo_mv (j := 4) rfl rfl (by decide) (fun vs W hD => rfl) (fun vs W hS hD => ⟨?_, hD.1⟩)) ?_
  · go_simp; done
  refine seqo_end fun vs W hS hZ hv => ?_
  obtain ⟨k0, k1, k2, k3, k4, k5, kz⟩ := hv
  have h0 : vs 0 = _ := k0 rfl
  have h2 : vs 2 = _ := k2 rfl
  have ho := k5 rfl
  obtain ⟨ma, mc, hv5, hmi⟩ := OwnOf.isOf cells7_len ho
  rw [HML.out] at hv5 hmi
  have HG1 := Lib.hid (HG0.out.later hS)
  have HX1 := Lib.hid (HX0.out.later hS)
  have HB1 := Lib.hid (Below.next HB0.out hS)
  have HM1 := Lib.hid hmi
  have hz0 := HB0.out.size
  simp only [h0, h2, hv5]
  clear h0 h2 k0 k1 k2 k3 k4 k5 kz ho hv5 hmi hS hZ HG0 HX0
  have HI1 := Lib.hid (HIG.out W)
  have HG2 := Lib.hid (HG1.out.later (below_alloc W (.cells #[.int .i64 x1, .int .i64 x2, .int .i64 x3, .int .i64 x4, .int .u8 (x5.toNat : Int), .int .u64 (x6.toNat : Int), .int .i64 x7, .bool x8] 62)))
  have HX2 := Lib.hid (HX1.out.later (below_alloc W (.cells #[.int .i64 x1, .int .i64 x2, .int .i64 x3, .int .i64 x4, .int .u8 (x5.toNat : Int), .int .u64 (x6.toNat : Int), .int .i64 x7, .bool x8] 62)))
  have HM2 := Lib.hid (HM1.out.later (below_alloc W (.cells #[.int .i64 x1, .int .i64 x2, .int .i64 x3, .int .i64 x4, .int .u8 (x5.toNat : Int), .int .u64 (x6.toNat : Int), .int .i64 x7, .bool x8] 62)))
  have HB2 := Lib.hid (Below.next HB1.out (below_alloc W (.cells #[.int .i64 x1, .int .i64 x2, .int .i64 x3, .int .i64 x4, .int .u8 (x5.toNat : Int), .int .u64 (x6.toNat : Int), .int .i64 x7, .bool x8] 62)))
  obtain ⟨_, c1, c2, c3, c4, c5, c6, c7, c8⟩ := HG1.out
  dsimp only at c1 c2 c3 c4 c5 c6 c7 c8
  go_wp2_with fail
  clear c1 c2 c3 c4 c5 c6 c7 c8 HG1 HX1 HM1 HB1 HIG
  generalize hWz : W.alloc (.cells #[.int .i64 x1, .int .i64 x2, .int .i64 x3, .int .i64 x4, .int .u8 (x5.toNat : Int), .int .u64 (x6.toNat : Int), .int .i64 x7, .bool x8] 62) = Wz at *
  clear hWz
  refine (good21_any a len cap L _ 1 1 [⟨x1, x2, x3, x4, x5, x6, x7, x8⟩] _ (HL.out.later HB2.out) HI1.out).mono ?_
  rintro e w3 ⟨rfl, hB⟩
  have HG3 := Lib.hid (HG2.out.later hB)
  have HX3 := Lib.hid (HX2.out.later hB)
  have HM3 := Lib.hid (HM2.out.later hB)
  have HB3 := Lib.hid (Below.next HB2.out hB)
  clear hB HG2 HX2 HM2 HB2 HI1
  cases hok : okA21 L [⟨x1, x2, x3, x4, x5, x6, x7, x8⟩]
  · clear hok
    go_wp2_with fail
    go_ret
    exact ⟨rfl, HB3.out⟩
  · obtain ⟨hrc, hog, h20⟩ := HGD.out hok
    have hl : len ≤ 20 := by have := HLL.out; omega
    have HRC := Lib.hid hrc
    have HOG := Lib.hid hog
    obtain ⟨u, hu⟩ : ∃ u : Nat, x7 = (u : Int) := ⟨x7.toNat, by have := HBY.out hog; (try dsimp only at this); omega⟩
    subst hu
    have hu64 : u < 64 := by have := HBY.out hog; (try dsimp only at this); omega
    clear hok hrc hog h20 HGD HBY
    go_wp2_with fail
    refine (good21_any ma (len + 1) mc M none 0 0 [] _ HM3.out (IsOf.nil _ _)).mono ?_
    rintro e w4 ⟨rfl, hB⟩
    have HG4 := Lib.hid (HG3.out.later hB)
    have HX4 := Lib.hid (HX3.out.later hB)
    have HM4 := Lib.hid (HM3.out.later hB)
    have HB4 := Lib.hid (Below.next HB3.out hB)
    clear hB HG3 HX3 HM3 HB3
    cases hok : okA21 M []
    · clear hok
      go_wp2_with fail
      go_ret
      exact ⟨rfl, HB4.out⟩
    · obtain ⟨hrm, _⟩ := okA21_iff.1 hok
      have HEL := Lib.hid (HLG.out HOG.out L HRC.out)
      have HEM := Lib.hid (HLG.out HOG.out M hrm)
      have HAPQ := Lib.hid (HAP.out HOG.out HRC.out hrm)
      have HDEQ := Lib.hid (HDE.out HOG.out HRC.out hrm)
      clear hok hrm HLG HAP HDE HOG HRC
      have HC1 := Lib.hid (fun (a : Option Addr) (len cap : Nat) (hl : len ≤ 100000) (w : World) (hL : IsL w a len L) => HCV.out a len cap L hl w hL)
      have HC2 := Lib.hid (fun (a : Option Addr) (len cap : Nat) (hl : len ≤ 100000) (w : World) (hL : IsL w a len M) => HCV.out a len cap M hl w hL)
      rw [HEL.out] at HC1
      rw [HEM.out] at HC2
      clear HCV HEL HEM
      generalize lvB ⟨x1, x2, x3, x4, x5, x6, (u : Int), x8⟩ L = b1 at *
      generalize lvB ⟨x1, x2, x3, x4, x5, x6, (u : Int), x8⟩ M = b2 at *
      go_wp2_with fail
      refine wp_region_seqo (fun X => Below w4.heap.size w4 X) w4.heap.size
        [fbC (.agg #[.int .i64 x1, .int .i64 x2, .int .i64 x3, .int .i64 x4, .int .u8 (x5.toNat : Int), .int .u64 (x6.toNat : Int), .int .i64 (u : Int), .bool x8]), fbC (.slice a len cap), fbL 45 cells7 7 w4.heap.size L, fbC (.tuple #[.bool b1, .int .i64 0]), fbC (.tuple #[.bool b1, .int .i64 0]), fbC (.bool b1), fbC (.int .i64 0), fbC (.bool b1), fbC (.int .i64 0)]
        [[], [], [], [], [], [], [], [], []] [[], [], [], [], [], [], [], [], []] [[], [], [1], [0, 2], [3], [4], [4], [5], [6]]
        (fun a b h k => k.trans h) (by kernel_rfl) (by kernel_rfl) (by kernel_rfl) ⟨rfl, rfl, rfl, Nat.le_refl _, fun _ _ => rfl⟩ (Nat.le_refl _) ?_ (by kernel_rfl)
        ⟨good_C _ _, good_C _ _, good_L _, good_C _ _, good_C _ _, good_C _ _, good_C _ _, good_C _ _, good_C _ _, trivial⟩ (Nat.le_refl 9)
      simp only [putsL, Act.put, List.setIfInBounds_toArray, List.set_cons_zero, List.set_cons_succ, Nat.zero_add, Nat.reduceAdd]
      refine seqo_cons (obo_run rfl (fun vs W hD => rfl) (fun vs W hS hD => ?_)) ?_
      · obtain ⟨_, c1, c2, c3, c4, c5, c6, c7, c8⟩ := HG4.out.later hS
        dsimp only at c1 c2 c3 c4 c5 c6 c7 c8
        go_simp; done
      refine seqo_cons (obo_run rfl (fun vs W hD => rfl) (fun vs W hS hD => ?_)) ?_
      · go_simp; done
      refine seqo_cons (obo_list rfl (f := 11) (fun vs => #[.slice a len cap]) (fun vs W hD => rfl) (fun vs W hS hD => ?_) (fun vs W hS hZ hD => ?_)) ?_
      · have h1 : vs 1 = _ := hD.1
        go_simp; done
      · exact copyrules_any a len cap L (by omega) W ((HL.out.later HB4.out).later hS)
      refine seqo_cons (obo_call rfl (f := 31) (fun vs => #[.agg #[.int .i64 x1, .int .i64 x2, .int .i64 x3, .int .i64 x4, .int .u8 (x5.toNat : Int), .int .u64 (x6.toNat : Int), .int .i64 (u : Int), .bool x8], vs 2]) (fun vs W hD => rfl) (fun vs W hS hD => ?_) (fun vs W hS hZ hD => ?_)) ?_
      · have h0 : vs 0 = _ := hD.1
        go_simp; done
      · obtain ⟨_, h5, _⟩ := hD
        obtain ⟨a2, cap2, he, hi⟩ := OwnOf.isOf cells7_len h5
        rw [he]
        exact HC1.out a2 _ cap2 (by rw [HLL.out]; omega) W hi
      refine seqo_cons (obo_run rfl (fun vs W hD => rfl) (fun vs W hS hD => ?_)) ?_
      · have h1 : vs 3 = _ := hD.1
        go_simp; done
      refine seqo_cons (obo_run rfl (fun vs W hD => rfl) (fun vs W hS hD => ?_)) ?_
      · have h1 : vs 4 = _ := hD.1
        go_simp; done
      refine seqo_cons (obo_run rfl (fun vs W hD => rfl) (fun vs W hS hD => ?_)) ?_
      · have h1 : vs 4 = _ := hD.1
        go_simp; done
      refine seqo_cons (obo_run rfl (fun vs W hD => rfl) (fun vs W hS hD => ?_)) ?_
      · have h1 : vs 5 = _ := hD.1
        go_simp; done
      refine seqo_cons (obo_run rfl (fun vs W hD => rfl) (fun vs W hS hD => ?_)) ?_
      · have h1 : vs 6 = _ := hD.1
        go_simp; done
      refine seqo_end fun vs W5 hS hZ hv => ?_
      obtain ⟨k0, k1, k2, k3, k4, k5, k6, k7, k8, kz⟩ := hv
      have h0 : vs 0 = _ := k0 rfl
      have h1 : vs 1 = _ := k1 rfl
      have h3 : vs 3 = _ := k3 rfl
      have h4 : vs 4 = _ := k4 rfl
      have h5 : vs 5 = _ := k5 rfl
      have h6 : vs 6 = _ := k6 rfl
      have h7 : vs 7 = _ := k7 rfl
      have h8 : vs 8 = _ := k8 rfl
      have HG5 := Lib.hid (HG4.out.later hS)
      have HX5 := Lib.hid (HX4.out.later hS)
      have HM5 := Lib.hid (HM4.out.later hS)
      have HB5 := Lib.hid (Below.next HB4.out hS)
      simp only [h0, h1, h3, h4, h5, h6, h7, h8]
      clear h0 h1 h3 h4 h5 h6 h7 h8 k0 k1 k2 k3 k4 k5 k6 k7 k8 kz hS hZ HG4 HX4 HB4
      go_wp2_with fail
      refine wp_region_seqo (fun X => Below W5.heap.size W5 X) W5.heap.size
        [fbC (.agg #[.int .i64 x1, .int .i64 x2, .int .i64 x3, .int .i64 x4, .int .u8 (x5.toNat : Int), .int .u64 (x6.toNat : Int), .int .i64 (u : Int), .bool x8]), fbC (.slice ma (len + 1) mc), fbL 45 cells7 7 W5.heap.size M, fbC (.tuple #[.bool b2, .int .i64 0]), fbC (.tuple #[.bool b2, .int .i64 0]), fbC (.bool b2), fbC (.int .i64 0), fbC (.bool b2), fbC (.int .i64 0)]
        [[], [], [], [], [], [], [], [], []] [[], [], [], [], [], [], [], [], []] [[], [], [1], [0, 2], [3], [4], [4], [5], [6]]
        (fun a b h k => k.trans h) (by kernel_rfl) (by kernel_rfl) (by kernel_rfl) ⟨rfl, rfl, rfl, Nat.le_refl _, fun _ _ => rfl⟩ (Nat.le_refl _) ?_ (by kernel_rfl)
        ⟨good_C _ _, good_C _ _, good_L _, good_C _ _, good_C _ _, good_C _ _, good_C _ _, good_C _ _, good_C _ _, trivial⟩ (Nat.le_refl 9)
      simp only [putsL, Act.put, List.setIfInBounds_toArray, List.set_cons_zero, List.set_cons_succ, Nat.zero_add, Nat.reduceAdd]
      refine seqo_cons (obo_run rfl (fun vs W hD => rfl) (fun vs W hS hD => ?_)) ?_
      · obtain ⟨_, c1, c2, c3, c4, c5, c6, c7, c8⟩ := HG5.out.later hS
        dsimp only at c1 c2 c3 c4 c5 c6 c7 c8
        go_simp; done
      refine seqo_cons (obo_run rfl (fun vs W hD => rfl) (fun vs W hS hD => ?_)) ?_
      · go_simp; done
      refine seqo_cons (obo_list rfl (f := 11) (fun vs => #[.slice ma (len + 1) mc]) (fun vs W hD => rfl) (fun vs W hS hD => ?_) (fun vs W hS hZ hD => ?_)) ?_
      · have h1 : vs 1 = _ := hD.1
        go_simp; done
      · exact copyrules_any ma (len + 1) mc M (by omega) W (HM5.out.later hS)
      refine seqo_cons (obo_call rfl (f := 31) (fun vs => #[.agg #[.int .i64 x1, .int .i64 x2, .int .i64 x3, .int .i64 x4, .int .u8 (x5.toNat : Int), .int .u64 (x6.toNat : Int), .int .i64 (u : Int), .bool x8], vs 2]) (fun vs W hD => rfl) (fun vs W hS hD => ?_) (fun vs W hS hZ hD => ?_)) ?_
      · have h0 : vs 0 = _ := hD.1
        go_simp; done
      · obtain ⟨_, h5, _⟩ := hD
        obtain ⟨a2, cap2, he, hi⟩ := OwnOf.isOf cells7_len h5
        rw [he]
        exact HC2.out a2 _ cap2 (by rw [HML.out]; omega) W hi
      refine seqo_cons (obo_run rfl (fun vs W hD => rfl) (fun vs W hS hD => ?_)) ?_
      · have h1 : vs 3 = _ := hD.1
        go_simp; done
      refine seqo_cons (obo_run rfl (fun vs W hD => rfl) (fun vs W hS hD => ?_)) ?_
      · have h1 : vs 4 = _ := hD.1
        go_simp; done
      refine seqo_cons (obo_run rfl (fun vs W hD => rfl) (fun vs W hS hD => ?_)) ?_
      · have h1 : vs 4 = _ := hD.1
        go_simp; done
      refine seqo_cons (obo_run rfl (fun vs W hD => rfl) (fun vs W hS hD => ?_)) ?_
      · have h1 : vs 5 = _ := hD.1
        go_simp; done
      refine seqo_cons (obo_run rfl (fun vs W hD => rfl) (fun vs W hS hD => ?_)) ?_
      · have h1 : vs 6 = _ := hD.1
        go_simp; done
      refine seqo_end fun vs W6 hS hZ hv => ?_
      obtain ⟨k0, k1, k2, k3, k4, k5, k6, k7, k8, kz⟩ := hv
      have h0 : vs 0 = _ := k0 rfl
      have h1 : vs 1 = _ := k1 rfl
      have h3 : vs 3 = _ := k3 rfl
      have h4 : vs 4 = _ := k4 rfl
      have h5 : vs 5 = _ := k5 rfl
      have h6 : vs 6 = _ := k6 rfl
      have h7 : vs 7 = _ := k7 rfl
      have h8 : vs 8 = _ := k8 rfl
      have HG6 := Lib.hid (HG5.out.later hS)
      have HX6 := Lib.hid (HX5.out.later hS)
      skip
      have HB6 := Lib.hid (Below.next HB5.out hS)
      simp only [h0, h1, h3, h4, h5, h6, h7, h8]
      clear h0 h1 h3 h4 h5 h6 h7 h8 k0 k1 k2 k3 k4 k5 k6 k7 k8 kz hS hZ HG5 HX5 HB5
      have HT := Lib.hid (tmod_bit y7 u)
      obtain ⟨_, c1, c2, c3, c4, c5, c6, c7, c8⟩ := HG6.out
      obtain ⟨_, d1, d2, d3, d4, d5, d6, d7⟩ := HX6.out
      dsimp only at *
      by_cases h0 : y1 > x3
      · have e1 := HAPQ.out (.inl h0)
        subst e1
        clear HAPQ HDEQ
        cases b2
        · skip
          go_wp2_with fail
          refine (Go.Proofs.Ytigofjamednfpaa.example21 _).mono ?_
          rintro e wE ⟨rfl, hBE⟩
          have HBE := Lib.hid (Below.next HB6.out hBE)
          go_wp2_with fail
          go_ret
          exact ⟨rfl, HBE.out⟩
        · skip
          go_wp2_with fail
          refine (Go.Proofs.Ytigofjamednfpaa.example21 _).mono ?_
          rintro e wE ⟨rfl, hBE⟩
          have HBE := Lib.hid (Below.next HB6.out hBE)
          go_wp2_with fail
          go_ret
          exact ⟨rfl, HBE.out⟩
      · skip
        by_cases h1 : x1 > y3
        · have e1 := HAPQ.out (.inr (.inl h1))
          subst e1
          clear HAPQ HDEQ
          cases b2
          · skip
            go_wp2_with fail
            refine (Go.Proofs.Ytigofjamednfpaa.example21 _).mono ?_
            rintro e wE ⟨rfl, hBE⟩
            have HBE := Lib.hid (Below.next HB6.out hBE)
            go_wp2_with fail
            go_ret
            exact ⟨rfl, HBE.out⟩
          · skip
            go_wp2_with fail
            refine (Go.Proofs.Ytigofjamednfpaa.example21 _).mono ?_
            rintro e wE ⟨rfl, hBE⟩
            have HBE := Lib.hid (Below.next HB6.out hBE)
            go_wp2_with fail
            go_ret
            exact ⟨rfl, HBE.out⟩
        · skip
          by_cases h2 : y2 > x4
          · have e1 := HAPQ.out (.inr (.inr (.inl h2)))
            subst e1
            clear HAPQ HDEQ
            cases b2
            · skip
              go_wp2_with fail
              refine (Go.Proofs.Ytigofjamednfpaa.example21 _).mono ?_
              rintro e wE ⟨rfl, hBE⟩
              have HBE := Lib.hid (Below.next HB6.out hBE)
              go_wp2_with fail
              go_ret
              exact ⟨rfl, HBE.out⟩
            · skip
              go_wp2_with fail
              refine (Go.Proofs.Ytigofjamednfpaa.example21 _).mono ?_
              rintro e wE ⟨rfl, hBE⟩
              have HBE := Lib.hid (Below.next HB6.out hBE)
              go_wp2_with fail
              go_ret
              exact ⟨rfl, HBE.out⟩
          · skip
            by_cases h3 : x2 > y4
            · have e1 := HAPQ.out (.inr (.inr (.inr h3)))
              subst e1
              clear HAPQ HDEQ
              cases b2
              · skip
                go_wp2_with fail
                refine (Go.Proofs.Ytigofjamednfpaa.example21 _).mono ?_
                rintro e wE ⟨rfl, hBE⟩
                have HBE := Lib.hid (Below.next HB6.out hBE)
                go_wp2_with fail
                go_ret
                exact ⟨rfl, HBE.out⟩
              · skip
                go_wp2_with fail
                refine (Go.Proofs.Ytigofjamednfpaa.example21 _).mono ?_
                rintro e wE ⟨rfl, hBE⟩
                have HBE := Lib.hid (Below.next HB6.out hBE)
                go_wp2_with fail
                go_ret
                exact ⟨rfl, HBE.out⟩
            · skip
              have hno : ¬ (y1 > x3 ∨ x1 > y3 ∨ y2 > x4 ∨ x2 > y4) := by omega
              cases hb : y7.getLsbD u
              · have e1 := HDEQ.out hno hb
                subst e1
                rw [hb] at HT
                have ht := HT.out
                simp only [Bool.false_eq_true, if_false] at ht
                clear HT HAPQ HDEQ hb hno
                cases b1
                · skip
                  go_wp2_with fail
                  refine (Go.Proofs.Ytigofjamednfpaa.example21 _).mono ?_
                  rintro e wE ⟨rfl, hBE⟩
                  have HBE := Lib.hid (Below.next HB6.out hBE)
                  go_wp2_with fail
                  go_ret
                  exact ⟨rfl, HBE.out⟩
                · skip
                  go_wp2_with fail
                  refine (Go.Proofs.Ytigofjamednfpaa.example21 _).mono ?_
                  rintro e wE ⟨rfl, hBE⟩
                  have HBE := Lib.hid (Below.next HB6.out hBE)
                  go_wp2_with fail
                  go_ret
                  exact ⟨rfl, HBE.out⟩
              · rw [hb] at HT
                have ht := HT.out
                simp only [if_true] at ht
                clear HT HAPQ HDEQ hb hno
                cases b1 <;> cases b2
                · skip
                  go_wp2_with fail
                  refine (Go.Proofs.Ytigofjamednfpaa.example21 _).mono ?_
                  rintro e wE ⟨rfl, hBE⟩
                  have HBE := Lib.hid (Below.next HB6.out hBE)
                  go_wp2_with fail
                  go_ret
                  exact ⟨rfl, HBE.out⟩
                · skip
                  go_wp2_with fail
                  refine (Go.Proofs.Ytigofjamednfpaa.example21 _).mono ?_
                  rintro e wE ⟨rfl, hBE⟩
                  have HBE := Lib.hid (Below.next HB6.out hBE)
                  go_wp2_with fail
                  go_ret
                  exact ⟨rfl, HBE.out⟩
                · skip
                  go_wp2_with fail
                  refine (Go.Proofs.Ytigofjamednfpaa.example21 _).mono ?_
                  rintro e wE ⟨rfl, hBE⟩
                  have HBE := Lib.hid (Below.next HB6.out hBE)
                  go_wp2_with fail
                  go_ret
                  exact ⟨rfl, HBE.out⟩
                · skip
                  go_wp2_with fail
                  refine (Go.Proofs.Ytigofjamednfpaa.example21 _).mono ?_
                  rintro e wE ⟨rfl, hBE⟩
                  have HBE := Lib.hid (Below.next HB6.out hBE)
                  go_wp2_with fail
                  go_ret
                  exact ⟨rfl, HBE.out⟩
end Go.Proofs.Ytigofjamednfpaa.Re
