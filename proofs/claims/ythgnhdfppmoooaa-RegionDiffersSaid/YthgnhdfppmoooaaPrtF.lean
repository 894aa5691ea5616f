/- The comparison by which parts are sorted. -/
import Derived.Test.YthgnhdfppmoooaaMprt
import Derived.Test.YthgnhdfppmoooaaSeqD
namespace Go.Proofs.Ythgnhdfppmoooaa.Re
open Go.RowKit AM
set_option linter.unusedVariables false
set_option linter.unusedSimpArgs false
attribute [local simp] DepA isB rsAt
def cmpI (x y : Int) : Int := if x < y then -1 else if y < x then 1 else 0
def cmp4 (a b : R4) : Int := if ¬ cmpI a.r1 b.r1 = 0 then cmpI a.r1 b.r1 else cmpI a.c1 b.c1
theorem isnan_any (x : Int) (w : World) : Calls Try.prog 43 #[.int .i64 x] w fun e w' => e = .returned (.bool false) ∧ w = w' := by
  go_enter Try.func43, Try.ntmps43
  go_wp2_with fail
  go_ret
  exact ⟨by simp, rfl⟩
theorem compare_any' (x y : Int) (w : World) : Calls Try.prog 29 #[.int .i64 x, .int .i64 y] w fun e w' => e = .returned (.int .i64 (cmpI x y)) ∧ w = w' := by
  have HE : Hid (cmpI x y = if x < y then -1 else if y < x then 1 else 0) := rfl
  generalize cmpI x y = E at *
  go_enter Try.func29, Try.ntmps29
  go_wp2_with fail
  refine (isnan_any x _).mono ?_
  rintro e w1 ⟨rfl, rfl⟩
  go_wp2_with fail
  refine (isnan_any y _).mono ?_
  rintro e w1 ⟨rfl, rfl⟩
  by_cases h1 : x < y
  · rw [if_pos h1] at HE
    go_wp2_with fail
    go_ret
    exact ⟨retI HE.out.symm, rfl⟩
  rw [if_neg h1] at HE
  by_cases h2 : y < x
  · rw [if_pos h2] at HE
    go_wp2_with fail
    go_ret
    exact ⟨retI HE.out.symm, rfl⟩
  rw [if_neg h2] at HE
  go_wp2_with fail
  go_ret
  exact ⟨retI HE.out.symm, rfl⟩
theorem or2_any (g : Nat) (u v : Int) (w : World) (h : w.heap[g]? = some (.cells #[.int .i64 u, .int .i64 v] 3)) : Calls Try.prog 28 #[.slice (some ⟨g, 0, none⟩) 2 2] w fun e w' => e = .returned (.int .i64 (if ¬ u = 0 then u else v)) ∧ w = w' := by
  have HQ := Lib.hid h
  obtain ⟨E, hE⟩ : ∃ E, E = if ¬ u = 0 then u else v := ⟨_, rfl⟩
  rw [← hE]
  have HE : Hid ((if ¬ u = 0 then u else v) = E) := hE.symm
  clear hE
  have c0 : w.cell? ⟨g, 0, none⟩ = some (.int .i64 u) := by simp [World.cell?, h]
  have c1 : w.cell? ⟨g, 1, none⟩ = some (.int .i64 v) := by simp [World.cell?, h]
  clear h
  go_enter Try.func28, Try.ntmps28
  go_wp2_with fail
  go_loop [8] (fun z => ∃ k : Nat, k ≤ 2 ∧ z = .int .i64 (k : Int) ∧ (0 < k → u = 0) ∧ (1 < k → v = 0)) (fun z => 2 - (intOf z).toNat)
  case atStart => exact ⟨0, by omega, rfl, by omega, by omega⟩
  case round =>
    obtain ⟨k, hk, rfl, h1, h2⟩ := hrel
    match k, hk with
    | 0, _ =>
      by_cases hu : u = 0
      · subst hu
        clear h1 h2
        go_wp2_with fail
        exact ⟨⟨1, by omega, by go_num, by simp, by simp⟩, by simp [intOf]⟩
      · have hb1 : (u != 0) = true := by simpa using hu
        have hb2 : (u == 0) = false := by simpa using hu
        rw [if_pos hu] at HE
        clear h1 h2
        go_wp2_with fail
        go_ret
        exact ⟨retI HE.out, rfl⟩
    | 1, _ =>
      have hu := h1 (by omega)
      subst hu
      rw [if_neg (by simp)] at HE
      by_cases hv : v = 0
      · subst hv
        clear h1 h2
        go_wp2_with fail
        exact ⟨⟨2, by omega, by go_num, by simp, by simp⟩, by simp [intOf]⟩
      · have hb1 : (v != 0) = true := by simpa using hv
        have hb2 : (v == 0) = false := by simpa using hv
        clear h1 h2
        go_wp2_with fail
        go_ret
        exact ⟨retI HE.out, rfl⟩
    | 2, _ =>
      have hu := h1 (by omega)
      have hv := h2 (by omega)
      subst hu; subst hv
      rw [if_neg (by simp)] at HE
      clear h1 h2
      go_wp2_with fail
      go_ret
      exact ⟨retI HE.out, rfl⟩
def TwoI (u v : Int) : Fact := fun x W => ∃ g, x = .slice (some ⟨g, 0, none⟩) 2 2 ∧ W.heap[g]? = some (.cells #[.int .i64 u, .int .i64 v] 3)
theorem twoI_stable (u v : Int) : Stable (TwoI u v) := fun _ _ _ hB ⟨g, h1, h2⟩ => ⟨g, h1, (hB.block _ (Array.getElem?_eq_some_iff.1 h2).1).trans h2⟩
set_option maxRecDepth 100000 in
set_option maxHeartbeats 3200000 in
theorem sorted1_any (a1 a2 a3 a4 i b1 b2 b3 b4 j : Int) (w : World) : Calls Try.prog 27 #[.agg #[.int .i64 a1, .int .i64 a2, .int .i64 a3, .int .i64 a4, .int .i64 i], .agg #[.int .i64 b1, .int .i64 b2, .int .i64 b3, .int .i64 b4, .int .i64 j]] w fun e w' => e = .returned (.int .i64 (cmp4 ⟨a1, a2, a3, a4⟩ ⟨b1, b2, b3, b4⟩)) ∧ Dw.BelD w w' := by
  have HK1 := Lib.hid (fun W => compare_any' a2 b2 W)
  have HK2 := Lib.hid (fun W => compare_any' a1 b1 W)
  have HCC : Hid ((if ¬ cmpI a2 b2 = 0 then cmpI a2 b2 else cmpI a1 b1) = cmp4 ⟨a1, a2, a3, a4⟩ ⟨b1, b2, b3, b4⟩) := rfl
  generalize cmp4 ⟨a1, a2, a3, a4⟩ ⟨b1, b2, b3, b4⟩ = cc at *
  generalize cmpI a2 b2 = c1 at *
  generalize cmpI a1 b1 = c2 at *
  have HB := Lib.hid ((Dw.BelD.alloc w (.cells #[.int .i64 a1, .int .i64 a2, .int .i64 a3, .int .i64 a4, .int .i64 i] 39)).next (Dw.BelD.alloc _ (.cells #[.int .i64 b1, .int .i64 b2, .int .i64 b3, .int .i64 b4, .int .i64 j] 39)))
  have hq : ∀ X : World, Below ((w.alloc (.cells #[.int .i64 a1, .int .i64 a2, .int .i64 a3, .int .i64 a4, .int .i64 i] 39)).alloc (.cells #[.int .i64 b1, .int .i64 b2, .int .i64 b3, .int .i64 b4, .int .i64 j] 39)).heap.size ((w.alloc (.cells #[.int .i64 a1, .int .i64 a2, .int .i64 a3, .int .i64 a4, .int .i64 i] 39)).alloc (.cells #[.int .i64 b1, .int .i64 b2, .int .i64 b3, .int .i64 b4, .int .i64 j] 39)) X → X.cell? ⟨w.heap.size, 1, none⟩ = some (.int .i64 a2) ∧ X.cell? ⟨w.heap.size, 0, none⟩ = some (.int .i64 a1) ∧ X.cell? ⟨w.heap.size + 1, 1, none⟩ = some (.int .i64 b2) ∧ X.cell? ⟨w.heap.size + 1, 0, none⟩ = some (.int .i64 b1) := fun X hX => by
    refine ⟨(hX.cell (p := ⟨w.heap.size, 1, none⟩) (by simp; omega)).trans ?_, (hX.cell (p := ⟨w.heap.size, 0, none⟩) (by simp; omega)).trans ?_, (hX.cell (p := ⟨w.heap.size + 1, 1, none⟩) (by simp)).trans ?_, (hX.cell (p := ⟨w.heap.size + 1, 0, none⟩) (by simp)).trans ?_⟩ <;> simp
  have HC1 := Lib.hid (fun X (hX : Dw.BelD ((w.alloc (.cells #[.int .i64 a1, .int .i64 a2, .int .i64 a3, .int .i64 a4, .int .i64 i] 39)).alloc (.cells #[.int .i64 b1, .int .i64 b2, .int .i64 b3, .int .i64 b4, .int .i64 j] 39)) X) => (hq X hX.1).1)
  have HC2 := Lib.hid (fun X (hX : Dw.BelD ((w.alloc (.cells #[.int .i64 a1, .int .i64 a2, .int .i64 a3, .int .i64 a4, .int .i64 i] 39)).alloc (.cells #[.int .i64 b1, .int .i64 b2, .int .i64 b3, .int .i64 b4, .int .i64 j] 39)) X) => (hq X hX.1).2.1)
  have HC3 := Lib.hid (fun X (hX : Dw.BelD ((w.alloc (.cells #[.int .i64 a1, .int .i64 a2, .int .i64 a3, .int .i64 a4, .int .i64 i] 39)).alloc (.cells #[.int .i64 b1, .int .i64 b2, .int .i64 b3, .int .i64 b4, .int .i64 j] 39)) X) => (hq X hX.1).2.2.1)
  have HC4 := Lib.hid (fun X (hX : Dw.BelD ((w.alloc (.cells #[.int .i64 a1, .int .i64 a2, .int .i64 a3, .int .i64 a4, .int .i64 i] 39)).alloc (.cells #[.int .i64 b1, .int .i64 b2, .int .i64 b3, .int .i64 b4, .int .i64 j] 39)) X) => (hq X hX.1).2.2.2)
  clear hq
  go_enter Try.func27, Try.ntmps27
  go_upto_region 1 with fail
  generalize (w.alloc (.cells #[.int .i64 a1, .int .i64 a2, .int .i64 a3, .int .i64 a4, .int .i64 i] 39)).alloc (.cells #[.int .i64 b1, .int .i64 b2, .int .i64 b3, .int .i64 b4, .int .i64 j] 39) = w0 at *
  go_wp2_with fail
  refine Dw.wp_region_seqd (fun X => Dw.BelD w0 X) (fun W W2 hB h1 => h1.next hB) (by kernel_rfl) (by kernel_rfl) (by kernel_rfl) (Dw.BelD.refl w0).drew ?_
  simp only [putsL, Act.put, List.setIfInBounds_toArray, List.set_cons_zero, List.set_cons_succ, Nat.zero_add, Nat.reduceAdd]
  refine Dw.seqd_run ?_ (fun vs W hD => (by first | rfl | (simp at hD; simp [Region.wanted, yielded, hD]))) (fun vs W hS hD => ?_) ?_
  rotate_left
  · have q1 := HC1.out W hS; have q2 := HC2.out W hS; have q3 := HC3.out W hS; have q4 := HC4.out W hS; obtain _ := hS; (try simp at hD); (try simp only [hD]); (first | (go_simp; done) | (go_simp; rfl))
  simp only [List.nil_append]
  refine Dw.seqd_run ?_ (fun vs W hD => (by first | rfl | (simp at hD; simp [Region.wanted, yielded, hD]))) (fun vs W hS hD => ?_) ?_
  rotate_left
  · have q1 := HC1.out W hS; have q2 := HC2.out W hS; have q3 := HC3.out W hS; have q4 := HC4.out W hS; obtain _ := hS; (try simp at hD); (try simp only [hD]); (first | (go_simp; done) | (go_simp; rfl))
  simp only [List.nil_append, List.cons_append]
  refine Dw.seqd_run ?_ (fun vs W hD => (by first | rfl | (simp at hD; simp [Region.wanted, yielded, hD]))) (fun vs W hS hD => ?_) ?_
  rotate_left
  · have q1 := HC1.out W hS; have q2 := HC2.out W hS; have q3 := HC3.out W hS; have q4 := HC4.out W hS; obtain _ := hS; (try simp at hD); (try simp only [hD]); (first | (go_simp; done) | (go_simp; rfl))
  simp only [List.nil_append, List.cons_append]
  refine Dw.seqd_run ?_ (fun vs W hD => (by first | rfl | (simp at hD; simp [Region.wanted, yielded, hD]))) (fun vs W hS hD => ?_) ?_
  rotate_left
  · have q1 := HC1.out W hS; have q2 := HC2.out W hS; have q3 := HC3.out W hS; have q4 := HC4.out W hS; obtain _ := hS; (try simp at hD); (try simp only [hD]); (first | (go_simp; done) | (go_simp; rfl))
  simp only [List.nil_append, List.cons_append]
  refine Dw.seqd_run ?_ (fun vs W hD => (by first | rfl | (simp at hD; simp [Region.wanted, yielded, hD]))) (fun vs W hS hD => ?_) ?_
  rotate_left
  · have q1 := HC1.out W hS; have q2 := HC2.out W hS; have q3 := HC3.out W hS; have q4 := HC4.out W hS; obtain _ := hS; (try simp at hD); (try simp only [hD]); (first | (go_simp; done) | (go_simp; rfl))
  simp only [List.nil_append, List.cons_append]
  refine Dw.seqd_run ?_ (fun vs W hD => (by first | rfl | (simp at hD; simp [Region.wanted, yielded, hD]))) (fun vs W hS hD => ?_) ?_
  rotate_left
  · have q1 := HC1.out W hS; have q2 := HC2.out W hS; have q3 := HC3.out W hS; have q4 := HC4.out W hS; obtain _ := hS; (try simp at hD); (try simp only [hD]); (first | (go_simp; done) | (go_simp; rfl))
  simp only [List.nil_append, List.cons_append]
  refine Dw.seqd_call (f := 29) (fun v _ => v = .int .i64 c1) (stable_val _) (fun vs => #[.int .i64 a2, .int .i64 b2]) (fun vs W hD => (by first | rfl | (simp at hD; simp [Region.wanted, yielded, hD]))) (fun vs W hS hD => ?_) (fun vs W hS hD => ?_) ?_
  · obtain _ := hS; (try simp at hD); (try simp only [hD]); go_simp; done
  · exact (HK1.out W).mono fun e W' ⟨he, hw⟩ => ⟨⟨_, he, rfl⟩, hw ▸ Dw.BelD.refl _⟩
  simp only [List.nil_append, List.cons_append]
  refine Dw.seqd_run ?_ (fun vs W hD => (by first | rfl | (simp at hD; simp [Region.wanted, yielded, hD]))) (fun vs W hS hD => ?_) ?_
  rotate_left
  · have q1 := HC1.out W hS; have q2 := HC2.out W hS; have q3 := HC3.out W hS; have q4 := HC4.out W hS; obtain _ := hS; (try simp at hD); (try simp only [hD]); (first | (go_simp; done) | (go_simp; rfl))
  simp only [List.nil_append, List.cons_append]
  refine Dw.seqd_run ?_ (fun vs W hD => (by first | rfl | (simp at hD; simp [Region.wanted, yielded, hD]))) (fun vs W hS hD => ?_) ?_
  rotate_left
  · have q1 := HC1.out W hS; have q2 := HC2.out W hS; have q3 := HC3.out W hS; have q4 := HC4.out W hS; obtain _ := hS; (try simp at hD); (try simp only [hD]); (first | (go_simp; done) | (go_simp; rfl))
  simp only [List.nil_append, List.cons_append]
  refine Dw.seqd_run ?_ (fun vs W hD => (by first | rfl | (simp at hD; simp [Region.wanted, yielded, hD]))) (fun vs W hS hD => ?_) ?_
  rotate_left
  · have q1 := HC1.out W hS; have q2 := HC2.out W hS; have q3 := HC3.out W hS; have q4 := HC4.out W hS; obtain _ := hS; (try simp at hD); (try simp only [hD]); (first | (go_simp; done) | (go_simp; rfl))
  simp only [List.nil_append, List.cons_append]
  refine Dw.seqd_run ?_ (fun vs W hD => (by first | rfl | (simp at hD; simp [Region.wanted, yielded, hD]))) (fun vs W hS hD => ?_) ?_
  rotate_left
  · have q1 := HC1.out W hS; have q2 := HC2.out W hS; have q3 := HC3.out W hS; have q4 := HC4.out W hS; obtain _ := hS; (try simp at hD); (try simp only [hD]); (first | (go_simp; done) | (go_simp; rfl))
  simp only [List.nil_append, List.cons_append]
  refine Dw.seqd_run ?_ (fun vs W hD => (by first | rfl | (simp at hD; simp [Region.wanted, yielded, hD]))) (fun vs W hS hD => ?_) ?_
  rotate_left
  · have q1 := HC1.out W hS; have q2 := HC2.out W hS; have q3 := HC3.out W hS; have q4 := HC4.out W hS; obtain _ := hS; (try simp at hD); (try simp only [hD]); (first | (go_simp; done) | (go_simp; rfl))
  simp only [List.nil_append, List.cons_append]
  refine Dw.seqd_run ?_ (fun vs W hD => (by first | rfl | (simp at hD; simp [Region.wanted, yielded, hD]))) (fun vs W hS hD => ?_) ?_
  rotate_left
  · have q1 := HC1.out W hS; have q2 := HC2.out W hS; have q3 := HC3.out W hS; have q4 := HC4.out W hS; obtain _ := hS; (try simp at hD); (try simp only [hD]); (first | (go_simp; done) | (go_simp; rfl))
  simp only [List.nil_append, List.cons_append]
  refine Dw.seqd_call (f := 29) (fun v _ => v = .int .i64 c2) (stable_val _) (fun vs => #[.int .i64 a1, .int .i64 b1]) (fun vs W hD => (by first | rfl | (simp at hD; simp [Region.wanted, yielded, hD]))) (fun vs W hS hD => ?_) (fun vs W hS hD => ?_) ?_
  · obtain _ := hS; (try simp at hD); (try simp only [hD]); go_simp; done
  · exact (HK2.out W).mono fun e W' ⟨he, hw⟩ => ⟨⟨_, he, rfl⟩, hw ▸ Dw.BelD.refl _⟩
  simp only [List.nil_append, List.cons_append]
  refine Dw.seqd_oper (TwoI c1 c2) (twoI_stable _ _) (fun vs W hD => (by first | rfl | (simp at hD; simp [Region.wanted, yielded, hD]))) (fun vs W hS hD => ?_) ?_
  · (try simp at hD); unfold OperR; (try simp only [hD]); go_simp; exact ⟨⟨_, rfl, heap_alloc_new _ _⟩, Dw.BelD.alloc _ _⟩
  simp only [List.nil_append, List.cons_append]
  refine Dw.seqd_call (f := 28) (fun v _ => v = .int .i64 cc) (stable_val _) (fun vs => #[vs 14]) (fun vs W hD => (by first | rfl | (simp at hD; simp [Region.wanted, yielded, hD]))) (fun vs W hS hD => ?_) (fun vs W hS hD => ?_) ?_
  · obtain _ := hS; (try simp at hD); (try simp only [hD]); go_simp; done
  · simp at hD; obtain ⟨⟨g, e14, hh⟩, _⟩ := hD; rw [e14]; exact (or2_any g c1 c2 W hh).mono fun e W' ⟨he, hw⟩ => ⟨⟨_, by rw [he, HCC.out], rfl⟩, hw ▸ Dw.BelD.refl _⟩
  simp only [List.nil_append, List.cons_append]
  refine Dw.seqd_run ?_ (fun vs W hD => (by first | rfl | (simp at hD; simp [Region.wanted, yielded, hD]))) (fun vs W hS hD => ?_) ?_
  rotate_left
  · obtain _ := hS; (try simp at hD); (try simp only [hD]); (first | (go_simp; done) | (go_simp; rfl))
  simp only [List.nil_append, List.cons_append]
  refine Dw.seqd_end fun vs W hS hv => ?_
  simp only [AllF, Nat.zero_add, Nat.reduceAdd] at hv
  obtain ⟨h0, h1, h2, h3, h4, h5, h6, h7, h8, h9, h10, h11, h12, h13, h14, h15, h16, _⟩ := hv
  have HBk := Lib.hid (HB.out.next hS)
  simp only [h0, h1, h2, h3, h4, h5, h6, h7, h8, h9, h10, h11, h12, h13, h15, h16]
  clear h0 h1 h2 h3 h4 h5 h6 h7 h8 h9 h10 h11 h12 h13 h14 h15 h16 hS
  go_wp2_with fail
  go_ret
  exact ⟨rfl, HBk.out⟩
end Go.Proofs.Ythgnhdfppmoooaa.Re
