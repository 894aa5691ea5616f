/- The walk of the law. -/
import Derived.Test.YthgnhdfppmoooaaDifZ
import Derived.Test.YthgnhdfppmoooaaDifX
import Derived.Test.YthgnhdfppmoooaaAclD
import Derived.Test.YthgnhdfppmoooaaClosed
import Derived.Test.YthgnhdfppmoooaaCame
namespace Go.Proofs.Ythgnhdfppmoooaa.Re
open Go.RowKit AM
set_option linter.unusedVariables false
set_option linter.unusedSimpArgs false
set_option maxHeartbeats 1600000 in
theorem serrors_any (r1 r2 r3 r4 : Int) (aa ab : Option Addr) (la ca lb cb : Nat) (A B : List RV) (w : World) (hA : IsL w aa la A) (hB : IsL w ab lb B) :
    Calls Try.prog 4 #[.agg #[.int .i64 r1, .int .i64 r2, .int .i64 r3, .int .i64 r4], .slice aa la ca, .slice ab lb cb] w fun e w' => e = .returned (.int .i64 (twoE (gcE ⟨r1, r2, r3, r4⟩ A) (gcE ⟨r1, r2, r3, r4⟩ B))) ∧ Below w.heap.size w w' := by
  have HLA := Lib.hid hA
  have HLB := Lib.hid hB
  clear hA hB
  have HC1 := Lib.hid (fun W h => scheck20_any r1 r2 r3 r4 aa la ca A W h)
  have HC2 := Lib.hid (fun W h => scheck20_any r1 r2 r3 r4 ab lb cb B W h)
  generalize gcE ⟨r1, r2, r3, r4⟩ A = gA at *
  generalize gcE ⟨r1, r2, r3, r4⟩ B = gB at *
  obtain ⟨gE, hgE⟩ : ∃ g, twoE gA gB = g := ⟨_, rfl⟩
  rw [hgE]
  have HGE := Lib.hid hgE
  clear hgE
  have HF := Lib.hid (Four.start w r1 r2 r3 r4 23)
  have HB := Lib.hid (below_alloc w (.cells #[.int .i64 r1, .int .i64 r2, .int .i64 r3, .int .i64 r4] 23))
  go_enter Try.func4, Try.ntmps4
  go_wp2_with fail
  generalize w.alloc (.cells #[.int .i64 r1, .int .i64 r2, .int .i64 r3, .int .i64 r4] 23) = w0 at *
  refine (HC1.out _ (HLA.out.later HB.out)).mono ?_
  rintro e w1 ⟨rfl, hB1⟩
  have HB1 := Lib.hid (Below.next HB.out hB1)
  have HF1 := Lib.hid (HF.out.later hB1)
  clear hB1 HB HF
  obtain ⟨_, e1, e2, e3, e4⟩ := HF1.out
  by_cases hz : gA = 0
  · subst hz
    have HE : Hid (gE = gB) := by rw [← HGE.out]; unfold Hid twoE; rw [if_pos rfl]
    go_wp2_with fail
    refine (HC2.out _ (HLB.out.later HB1.out)).mono ?_
    rintro e w2 ⟨rfl, hB2⟩
    have HB2 := Lib.hid (Below.next HB1.out hB2)
    clear hB2 HB1 HF1 e1 e2 e3 e4
    go_wp2_with fail
    go_ret
    exact ⟨by rw [HE.out]; rfl, HB2.out⟩
  · have hz1 : (gA != 0) = true := by simpa using hz
    have hz2 : (gA == 0) = false := by simpa using hz
    have HE : Hid (gE = gA) := by rw [← HGE.out]; unfold Hid twoE; rw [if_neg hz]
    clear hz
    go_wp2_with fail
    go_ret
    exact ⟨by rw [HE.out]; rfl, HB1.out⟩
def SlL (n : Nat) (L : List RV) : Fact := fun v X => ∃ ia ic, v = .slice ia n ic ∧ IsL X ia n L
theorem slL_stable (n : Nat) (L : List RV) : Stable (SlL n L) := fun _ _ _ hB ⟨ia, ic, e, h⟩ => ⟨ia, ic, e, h.later hB⟩
def ResD (E : Int) (D0 : List (R4 × Nat)) : Fact := fun v X => ∃ pa n pc, v = .slice pa n pc ∧ (E = 0 → ∃ D, Sorts D0 D ∧ n = D.length ∧ IsR X pa n (rects D)) ∧ (¬ E = 0 → n = 0)
theorem resD_stable (E : Int) (D0 : List (R4 × Nat)) : Stable (ResD E D0) := fun _ _ _ hB ⟨pa, n, pc, e, h1, h2⟩ => ⟨pa, n, pc, e, (fun h => by obtain ⟨D, a, b, c⟩ := h1 h; exact ⟨D, a, b, c.later hB⟩), h2⟩
def TupD (E : Int) (D0 : List (R4 × Nat)) : Fact := fun v X => ∃ u, v = .tuple #[u, .int .i64 E] ∧ ResD E D0 u X
theorem tupD_stable (E : Int) (D0 : List (R4 × Nat)) : Stable (TupD E D0) := fun _ _ _ hB ⟨u, e, h⟩ => ⟨u, e, resD_stable E D0 _ _ _ hB h⟩
set_option maxRecDepth 100000 in
set_option maxHeartbeats 6400000 in
theorem regionDiffers_any (r1 r2 r3 r4 : Int) (aa : Option Addr) (la ca : Nat) (A : List RV) (ab : Option Addr) (lb cb : Nat) (B : List RV) (w : World) (hA : IsL w aa la A) (hB : IsL w ab lb B) :
    Calls Try.prog 3 #[.agg #[.int .i64 r1, .int .i64 r2, .int .i64 r3, .int .i64 r4], .slice aa la ca, .slice ab lb cb] w fun e w' => e = .returned (.bool true) ∧ Below w.heap.size w w' := by
  have HLA := Lib.hid hA
  have HLB := Lib.hid hB
  have HNA := Lib.hid hA.1
  have HNB := Lib.hid hB.1
  have HSE := Lib.hid (fun W h1 h2 => serrors_any r1 r2 r3 r4 aa ab la ca lb cb A B W h1 h2)
  have HPD : Hid (∀ ia ic ib icb W, la ≤ 100000 → lb ≤ 100000 → IsL W ia la A → IsL W ib lb B → Calls Try.prog 5 #[.agg #[.int .i64 r1, .int .i64 r2, .int .i64 r3, .int .i64 r4], .slice ia la ic, .slice ib lb icb] W fun e w' => (∃ v, e = .returned v ∧ TupD (twoE (gcE ⟨r1, r2, r3, r4⟩ A) (gcE ⟨r1, r2, r3, r4⟩ B)) (difL A B gRd ⟨r1, r2, r3, r4⟩) v w') ∧ Below W.heap.size W w') := fun ia ic ib icb W hl1 hl2 h1 h2 => (pdiffer_any r1 r2 r3 r4 ia ib la ic lb icb A B hl1 hl2 W h1 h2).mono (by
    rintro e w' ⟨⟨u, rfl, hy, hn⟩, hB⟩
    refine ⟨⟨_, rfl, u, rfl, ?_⟩, hB⟩
    by_cases hE : twoE (gcE ⟨r1, r2, r3, r4⟩ A) (gcE ⟨r1, r2, r3, r4⟩ B) = 0
    · have hA0 : gcE ⟨r1, r2, r3, r4⟩ A = 0 := by
        by_cases h : gcE ⟨r1, r2, r3, r4⟩ A = 0
        · exact h
        · unfold twoE at hE; rw [if_neg h] at hE; exact hE
      have hB0 : gcE ⟨r1, r2, r3, r4⟩ B = 0 := by unfold twoE at hE; rw [if_pos hA0] at hE; exact hE
      obtain ⟨D, hS, ho⟩ := hy hA0 hB0
      obtain ⟨pa, pc, rfl, hi⟩ := ho.isR
      have hrl : (rects D).length = D.length := List.length_map ..
      rw [hrl] at hi ⊢
      exact ⟨pa, _, pc, rfl, (fun _ => ⟨D, hS, rfl, hi⟩), fun h => absurd hE h⟩
    · obtain rfl := hn hE
      exact ⟨none, 0, 0, rfl, (fun h => absurd h hE), fun _ => rfl⟩)
  clear hA hB
  obtain ⟨gA, hgA⟩ : ∃ g, gcE ⟨r1, r2, r3, r4⟩ A = g := ⟨_, rfl⟩
  obtain ⟨gB, hgB⟩ : ∃ g, gcE ⟨r1, r2, r3, r4⟩ B = g := ⟨_, rfl⟩
  obtain ⟨D0, hD0⟩ : ∃ D0, difL A B gRd ⟨r1, r2, r3, r4⟩ = D0 := ⟨_, rfl⟩
  rw [hgA, hgB] at HSE HPD
  rw [hD0] at HPD
  have HGA := Lib.hid hgA
  have HGB := Lib.hid hgB
  have HD0 := Lib.hid hD0
  clear hgA hgB hD0
  obtain ⟨gE, hgE⟩ : ∃ g, twoE gA gB = g := ⟨_, rfl⟩
  rw [hgE] at HSE HPD
  have HGE := Lib.hid hgE
  clear hgE
  have HF0 := Lib.hid (Four.start w r1 r2 r3 r4 23)
  have HB0 := Lib.hid (below_alloc w (.cells #[.int .i64 r1, .int .i64 r2, .int .i64 r3, .int .i64 r4] 23))
  go_enter Try.func3, Try.ntmps3
  go_wp2_with fail
  generalize w.alloc (.cells #[.int .i64 r1, .int .i64 r2, .int .i64 r3, .int .i64 r4] 23) = w0 at *
  refine (HSE.out _ (HLA.out.later HB0.out) (HLB.out.later HB0.out)).mono ?_
  rintro e w2 ⟨rfl, hB2⟩
  have HB2 := Lib.hid (Below.next HB0.out hB2)
  have HF2 := Lib.hid (HF0.out.later hB2)
  clear hB2 HF0 HB0 HSE
  by_cases h66 : 66 < la
  · go_wp2_with fail
    go_ret
    exact ⟨rfl, HB2.out⟩
  by_cases h66b : 66 < lb
  · go_wp2_with fail
    go_ret
    exact ⟨rfl, HB2.out⟩
  have hd1 : decide ((66 : Int) < (la : Int)) = false := by simp; omega
  have hd2 : decide ((66 : Int) < (lb : Int)) = false := by simp; omega
  by_cases h16 : gE = 0 ∧ 16 < la + lb
  · obtain ⟨hz, hs⟩ := h16
    subst hz
    go_wp2_with fail
    go_ret
    exact ⟨rfl, HB2.out⟩
  have HCOND : Hid (gE = 0 → la + lb ≤ 16) := fun h => by omega
  have hcase : (gE == 0) = false ∨ (gE == 0) = true ∧ decide ((16 : Int) < (la : Int) + (lb : Int)) = false := by
    by_cases h : gE = 0
    · exact .inr ⟨by simpa using h, by simp; omega⟩
    · exact .inl (by simpa using h)
  have hmx : Try.prog.follows .mixedOrders = true := by kernel_rfl
  have hxz : la ≤ 100000 := by omega
  have hxz2 : lb ≤ 100000 := by omega
  have key : ∀ (X : Prop), X → X := fun _ h => h
  clear h16
  rcases hcase with hz2 | ⟨hz2, hd3⟩
  · have hz1 : (gE != 0) = true := by simp only [beq_eq_false_iff_ne] at hz2; simpa using hz2
    have HZ := Lib.hid (show ¬ gE = 0 by simpa using hz2)
    go_upto_region 4 with fail
    refine wp_region_seqi (fun X => Below w.heap.size w X ∧ Four X w.heap.size r1 r2 r3 r4) (fun W W2 hB ⟨h1, h2⟩ => ⟨Below.next h1 hB, h2.later hB⟩) (by kernel_rfl) (by kernel_rfl) (by kernel_rfl) ⟨HB2.out.drew, HF2.out⟩ ?_
    simp only [putsL, Act.put, List.setIfInBounds_toArray, List.set_cons_zero, List.set_cons_succ, Nat.zero_add, Nat.reduceAdd]
    refine seqi_run ?_ (fun vs W hD => (by first | rfl | (simp [DepA, isB, rsAt] at hD; simp [Region.wanted, yielded, hD]))) (fun vs W hS hD => ?_) ?_
    rotate_left
    · obtain ⟨_, f1, f2, f3, f4⟩ := hS.2; (try simp [DepA, isB, rsAt] at hD); (try simp only [hD]); (first | (go_simp; done) | (go_simp; rfl))
    simp only [List.nil_append, List.cons_append]
    refine seqi_run ?_ (fun vs W hD => (by first | rfl | (simp [DepA, isB, rsAt] at hD; simp [Region.wanted, yielded, hD]))) (fun vs W hS hD => ?_) ?_
    rotate_left
    · obtain ⟨_, f1, f2, f3, f4⟩ := hS.2; (try simp [DepA, isB, rsAt] at hD); (try simp only [hD]); (first | (go_simp; done) | (go_simp; rfl))
    simp only [List.nil_append, List.cons_append]
    refine seqi_call (f := 6) (SlL la A) (slL_stable _ _) (fun vs => #[.slice aa la ca]) (fun vs W hD => (by first | rfl | (simp [DepA, isB, rsAt] at hD; simp [Region.wanted, yielded, hD]))) (fun vs W hS hD => ?_) (fun vs W hS hD => ?_) ?_
    · (try simp [DepA, isB, rsAt] at hD); (try simp only [hD]); go_simp; done
    · exact (copyrules_any aa la ca A (by omega) W (HLA.out.later hS.1)).mono fun e W' ⟨⟨v, he, ho⟩, hB⟩ => by obtain ⟨ia, ic, rfl, hi⟩ := ho.isOf cells7_len; rw [HNA.out] at he hi; exact ⟨⟨_, he, ia, ic, rfl, hi⟩, hB⟩
    simp only [List.nil_append, List.cons_append]
    refine seqi_run ?_ (fun vs W hD => (by first | rfl | (simp [DepA, isB, rsAt] at hD; simp [Region.wanted, yielded, hD]))) (fun vs W hS hD => ?_) ?_
    rotate_left
    · obtain ⟨_, f1, f2, f3, f4⟩ := hS.2; (try simp [DepA, isB, rsAt] at hD); (try simp only [hD]); (first | (go_simp; done) | (go_simp; rfl))
    simp only [List.nil_append, List.cons_append]
    refine seqi_call (f := 6) (SlL lb B) (slL_stable _ _) (fun vs => #[.slice ab lb cb]) (fun vs W hD => (by first | rfl | (simp [DepA, isB, rsAt] at hD; simp [Region.wanted, yielded, hD]))) (fun vs W hS hD => ?_) (fun vs W hS hD => ?_) ?_
    · (try simp [DepA, isB, rsAt] at hD); (try simp only [hD]); go_simp; done
    · exact (copyrules_any ab lb cb B (by omega) W (HLB.out.later hS.1)).mono fun e W' ⟨⟨v, he, ho⟩, hB⟩ => by obtain ⟨ia, ic, rfl, hi⟩ := ho.isOf cells7_len; rw [HNB.out] at he hi; exact ⟨⟨_, he, ia, ic, rfl, hi⟩, hB⟩
    simp only [List.nil_append, List.cons_append]
    refine seqi_call (f := 5) (TupD gE D0) (tupD_stable _ _) (fun vs => #[.agg #[.int .i64 r1, .int .i64 r2, .int .i64 r3, .int .i64 r4], vs 2, vs 4]) (fun vs W hD => (by first | rfl | (simp [DepA, isB, rsAt] at hD; simp [Region.wanted, yielded, hD]))) (fun vs W hS hD => ?_) (fun vs W hS hD => ?_) ?_
    · (try simp [DepA, isB, rsAt] at hD); (try simp only [hD]); go_simp; done
    · simp [DepA, isB, rsAt] at hD; obtain ⟨_, hd2, hd4⟩ := hD; obtain ⟨ia, ic, e2, i2⟩ := hd2; obtain ⟨ib, icb, e4, i4⟩ := hd4; rw [e2, e4]; exact HPD.out ia ic ib icb W hxz hxz2 i2 i4
    simp only [List.nil_append, List.cons_append]
    refine seqi_dep (TupD gE D0) (tupD_stable _ _) (fun vs W hD => (by first | rfl | (simp [DepA, isB, rsAt] at hD; simp [Region.wanted, yielded, hD]))) (fun vs W hS hD => ?_) ?_
    · simp [DepA, isB, rsAt] at hD; refine ⟨vs 5, ?_, by first | exact hD | exact hD.1⟩; go_simp; done
    simp only [List.nil_append, List.cons_append]
    refine seqi_dep (ResD gE D0) (resD_stable _ _) (fun vs W hD => (by first | rfl | (simp [DepA, isB, rsAt] at hD; simp [Region.wanted, yielded, hD]))) (fun vs W hS hD => ?_) ?_
    · simp [DepA, isB, rsAt] at hD; obtain ⟨u, hu, hl⟩ := hD; refine ⟨u, ?_, hl⟩; go_simp; done
    simp only [List.nil_append, List.cons_append]
    refine seqi_run (.int .i64 gE) (fun vs W hD => (by first | rfl | (simp [DepA, isB, rsAt] at hD; simp [Region.wanted, yielded, hD]))) (fun vs W hS hD => ?_) ?_
    · simp [DepA, isB, rsAt] at hD; obtain ⟨u, hu, hl⟩ := hD; go_simp; done
    simp only [List.nil_append, List.cons_append]
    refine seqi_dep (ResD gE D0) (resD_stable _ _) (fun vs W hD => (by first | rfl | (simp [DepA, isB, rsAt] at hD; simp [Region.wanted, yielded, hD]))) (fun vs W hS hD => ?_) ?_
    · simp [DepA, isB, rsAt] at hD; refine ⟨vs 7, ?_, ?_⟩; (· (go_simp; done)); (repeat (first | exact hD | exact hD.1 | replace hD := hD.2)); done
    simp only [List.nil_append, List.cons_append]
    refine seqi_run (.int .i64 gE) (fun vs W hD => (by first | rfl | (simp [DepA, isB, rsAt] at hD; simp [Region.wanted, yielded, hD]))) (fun vs W hS hD => ?_) ?_
    · simp [DepA, isB, rsAt] at hD; (try simp only [hD]); go_simp; done
    simp only [List.nil_append, List.cons_append]
    refine seqi_end fun vs W hS hv => ?_
    simp only [AllF, Nat.zero_add, Nat.reduceAdd] at hv
    obtain ⟨h0, h1, h2, h3, h4, h5, h6, h7, h8, h9, h10, _⟩ := hv
    have HB4 := Lib.hid hS.1
    have HF4 := Lib.hid hS.2
    obtain ⟨pa, n0, pc, h9, hy0, hn0⟩ := h9
    simp only [h0, h1, h3, h8, h9, h10]
    clear h0 h1 h2 h3 h4 h5 h6 h7 h8 h9 h10 hS HB2 HF2 HPD
    generalize W = W4 at *
    go_wp2_with fail
    obtain rfl := hn0 HZ.out
    go_wp2_with fail
    go_ret
    exact ⟨rfl, HB4.out⟩
  · have HZ := Lib.hid (show gE = 0 by simpa using hz2)
    go_upto_region 4 with fail
    refine wp_region_seqi (fun X => Below w.heap.size w X ∧ Four X w.heap.size r1 r2 r3 r4) (fun W W2 hB ⟨h1, h2⟩ => ⟨Below.next h1 hB, h2.later hB⟩) (by kernel_rfl) (by kernel_rfl) (by kernel_rfl) ⟨HB2.out.drew, HF2.out⟩ ?_
    simp only [putsL, Act.put, List.setIfInBounds_toArray, List.set_cons_zero, List.set_cons_succ, Nat.zero_add, Nat.reduceAdd]
    refine seqi_run ?_ (fun vs W hD => (by first | rfl | (simp [DepA, isB, rsAt] at hD; simp [Region.wanted, yielded, hD]))) (fun vs W hS hD => ?_) ?_
    rotate_left
    · obtain ⟨_, f1, f2, f3, f4⟩ := hS.2; (try simp [DepA, isB, rsAt] at hD); (try simp only [hD]); (first | (go_simp; done) | (go_simp; rfl))
    simp only [List.nil_append, List.cons_append]
    refine seqi_run ?_ (fun vs W hD => (by first | rfl | (simp [DepA, isB, rsAt] at hD; simp [Region.wanted, yielded, hD]))) (fun vs W hS hD => ?_) ?_
    rotate_left
    · obtain ⟨_, f1, f2, f3, f4⟩ := hS.2; (try simp [DepA, isB, rsAt] at hD); (try simp only [hD]); (first | (go_simp; done) | (go_simp; rfl))
    simp only [List.nil_append, List.cons_append]
    refine seqi_call (f := 6) (SlL la A) (slL_stable _ _) (fun vs => #[.slice aa la ca]) (fun vs W hD => (by first | rfl | (simp [DepA, isB, rsAt] at hD; simp [Region.wanted, yielded, hD]))) (fun vs W hS hD => ?_) (fun vs W hS hD => ?_) ?_
    · (try simp [DepA, isB, rsAt] at hD); (try simp only [hD]); go_simp; done
    · exact (copyrules_any aa la ca A (by omega) W (HLA.out.later hS.1)).mono fun e W' ⟨⟨v, he, ho⟩, hB⟩ => by obtain ⟨ia, ic, rfl, hi⟩ := ho.isOf cells7_len; rw [HNA.out] at he hi; exact ⟨⟨_, he, ia, ic, rfl, hi⟩, hB⟩
    simp only [List.nil_append, List.cons_append]
    refine seqi_run ?_ (fun vs W hD => (by first | rfl | (simp [DepA, isB, rsAt] at hD; simp [Region.wanted, yielded, hD]))) (fun vs W hS hD => ?_) ?_
    rotate_left
    · obtain ⟨_, f1, f2, f3, f4⟩ := hS.2; (try simp [DepA, isB, rsAt] at hD); (try simp only [hD]); (first | (go_simp; done) | (go_simp; rfl))
    simp only [List.nil_append, List.cons_append]
    refine seqi_call (f := 6) (SlL lb B) (slL_stable _ _) (fun vs => #[.slice ab lb cb]) (fun vs W hD => (by first | rfl | (simp [DepA, isB, rsAt] at hD; simp [Region.wanted, yielded, hD]))) (fun vs W hS hD => ?_) (fun vs W hS hD => ?_) ?_
    · (try simp [DepA, isB, rsAt] at hD); (try simp only [hD]); go_simp; done
    · exact (copyrules_any ab lb cb B (by omega) W (HLB.out.later hS.1)).mono fun e W' ⟨⟨v, he, ho⟩, hB⟩ => by obtain ⟨ia, ic, rfl, hi⟩ := ho.isOf cells7_len; rw [HNB.out] at he hi; exact ⟨⟨_, he, ia, ic, rfl, hi⟩, hB⟩
    simp only [List.nil_append, List.cons_append]
    refine seqi_call (f := 5) (TupD gE D0) (tupD_stable _ _) (fun vs => #[.agg #[.int .i64 r1, .int .i64 r2, .int .i64 r3, .int .i64 r4], vs 2, vs 4]) (fun vs W hD => (by first | rfl | (simp [DepA, isB, rsAt] at hD; simp [Region.wanted, yielded, hD]))) (fun vs W hS hD => ?_) (fun vs W hS hD => ?_) ?_
    · (try simp [DepA, isB, rsAt] at hD); (try simp only [hD]); go_simp; done
    · simp [DepA, isB, rsAt] at hD; obtain ⟨_, hd2, hd4⟩ := hD; obtain ⟨ia, ic, e2, i2⟩ := hd2; obtain ⟨ib, icb, e4, i4⟩ := hd4; rw [e2, e4]; exact HPD.out ia ic ib icb W hxz hxz2 i2 i4
    simp only [List.nil_append, List.cons_append]
    refine seqi_dep (TupD gE D0) (tupD_stable _ _) (fun vs W hD => (by first | rfl | (simp [DepA, isB, rsAt] at hD; simp [Region.wanted, yielded, hD]))) (fun vs W hS hD => ?_) ?_
    · simp [DepA, isB, rsAt] at hD; refine ⟨vs 5, ?_, by first | exact hD | exact hD.1⟩; go_simp; done
    simp only [List.nil_append, List.cons_append]
    refine seqi_dep (ResD gE D0) (resD_stable _ _) (fun vs W hD => (by first | rfl | (simp [DepA, isB, rsAt] at hD; simp [Region.wanted, yielded, hD]))) (fun vs W hS hD => ?_) ?_
    · simp [DepA, isB, rsAt] at hD; obtain ⟨u, hu, hl⟩ := hD; refine ⟨u, ?_, hl⟩; go_simp; done
    simp only [List.nil_append, List.cons_append]
    refine seqi_run (.int .i64 gE) (fun vs W hD => (by first | rfl | (simp [DepA, isB, rsAt] at hD; simp [Region.wanted, yielded, hD]))) (fun vs W hS hD => ?_) ?_
    · simp [DepA, isB, rsAt] at hD; obtain ⟨u, hu, hl⟩ := hD; go_simp; done
    simp only [List.nil_append, List.cons_append]
    refine seqi_dep (ResD gE D0) (resD_stable _ _) (fun vs W hD => (by first | rfl | (simp [DepA, isB, rsAt] at hD; simp [Region.wanted, yielded, hD]))) (fun vs W hS hD => ?_) ?_
    · simp [DepA, isB, rsAt] at hD; refine ⟨vs 7, ?_, ?_⟩; (· (go_simp; done)); (repeat (first | exact hD | exact hD.1 | replace hD := hD.2)); done
    simp only [List.nil_append, List.cons_append]
    refine seqi_run (.int .i64 gE) (fun vs W hD => (by first | rfl | (simp [DepA, isB, rsAt] at hD; simp [Region.wanted, yielded, hD]))) (fun vs W hS hD => ?_) ?_
    · simp [DepA, isB, rsAt] at hD; (try simp only [hD]); go_simp; done
    simp only [List.nil_append, List.cons_append]
    refine seqi_end fun vs W hS hv => ?_
    simp only [AllF, Nat.zero_add, Nat.reduceAdd] at hv
    obtain ⟨h0, h1, h2, h3, h4, h5, h6, h7, h8, h9, h10, _⟩ := hv
    have HB4 := Lib.hid hS.1
    have HF4 := Lib.hid hS.2
    obtain ⟨pa, n0, pc, h9, hy0, hn0⟩ := h9
    simp only [h0, h1, h3, h8, h9, h10]
    clear h0 h1 h2 h3 h4 h5 h6 h7 h8 h9 h10 hS HB2 HF2 HPD
    generalize W = W4 at *
    obtain ⟨D, hS, rfl, hpi⟩ := hy0 HZ.out
    have hg0 := HZ.out
    subst hg0
    have hab : gA = 0 ∧ gB = 0 := by
      have h := HGE.out
      unfold twoE at h
      by_cases h0 : gA = 0
      · rw [if_pos h0] at h; exact ⟨h0, h⟩
      · rw [if_neg h0] at h; exact absurd h h0
    obtain ⟨hga, hgb⟩ := hab
    subst hga
    subst hgb
    have hDO := dif_ok HGA.out HGB.out (by rw [HD0.out]; exact hS)
    have HP4 := Lib.hid hpi
    have HDO := Lib.hid hDO
    obtain ⟨hrk, hrc⟩ := gcE_zero.1 HGA.out
    obtain ⟨h0, h64, hsh, hok⟩ := rck_zero.1 hrc
    obtain ⟨_, hrcB⟩ := gcE_zero.1 HGB.out
    obtain ⟨h0B, h64B, hshB, hokB⟩ := rck_zero.1 hrcB
    have HRK := Lib.hid hrk
    have HOKA : Hid (∀ k, k < A.length → (rr4 (ruleAt A k)).ck = true) := fun k hk => okRule_ck (hok k hk)
    have HOKB : Hid (∀ k, k < B.length → (rr4 (ruleAt B k)).ck = true) := fun k hk => okRule_ck (hokB k hk)
    have hla0 : 0 < la := by rw [← HNA.out]; exact h0
    have hlb0 : 0 < lb := by rw [← HNB.out]; exact h0B
    have hab16 := HCOND.out rfl
    have hDl := hDO.len
    clear hS hpi hDO hrk hrc h0 h64 hsh hok hrcB h0B h64B hshB hokB hy0 hn0
    generalize D.length = n at *
    obtain ⟨_, e1, e2, e3, e4⟩ := HF4.out
    go_wp2_with fail
    refine (sdiffer_any r1 r2 r3 r4 aa ab pa la ca lb cb n pc A B (rects D) _ (HLA.out.later HB4.out) (HLB.out.later HB4.out) HP4.out (by omega) hla0 hlb0 HOKA.out HOKB.out HRK.out hDl HDO.out.h1 HDO.out.h2 HDO.out.h3 HDO.out.h4 HDO.out.h5).mono ?_
    rintro e w5 ⟨rfl, hB5⟩
    have HB5 := Lib.hid (Below.next HB4.out hB5)
    clear hB5 HB4 HF4 HP4 e1 e2 e3 e4
    go_wp2_with fail
    refine (Go.Proofs.Ythgnhdfppmoooaa.example20 _).mono ?_
    rintro e wE ⟨rfl, hBE⟩
    have HBE := Lib.hid (Below.next HB5.out hBE)
    go_wp2_with fail
    go_ret
    exact ⟨rfl, HBE.out⟩
end Go.Proofs.Ythgnhdfppmoooaa.Re
