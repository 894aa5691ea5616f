/- The walk of the law. -/
import Derived.Test.YtelnffamkkkpaaaAclE
import Derived.Test.YtelnffamkkkpaaaSeqP
import Derived.Test.YtelnffamkkkpaaaCame
import Derived.Deep.CutRange
namespace Go.Proofs.Ytelnffamkkkpaaa.Re
open Go.RowKit AM
theorem lastI_app (A : List RV) (x : RV) (p q : Int) : ∀ k, k ≤ A.length → lastI (A ++ [x]) p q k = lastI A p q k := by
  intro k
  induction k with
  | zero => intro _; rfl
  | succ k ih =>
    intro hk
    unfold lastI
    rw [List.getElem?_append_left (by omega), ih (by omega)]
theorem lastI_x (A : List RV) (x : RV) (p q : Int) : lastI (A ++ [x]) p q (A ++ [x]).length = if hasR x p q then A.length else lastI A p q A.length := by
  rw [List.length_append, List.length_singleton]
  cases h : hasR x p q
  · rw [lastI_f _ p q A.length (by simp) (by simpa using h), lastI_app _ _ _ _ _ (Nat.le_refl _)]; rfl
  · rw [lastI_t _ p q A.length (by simp) (by simpa using h)]; rfl
theorem findBad_zero (n : Nat) : ∀ (L : List RV) (i : Nat), (findBad n L i).2 = 0 ↔ ∀ j (hj : j < L.length), okRule n L[j] = true := by
  intro L
  induction L with
  | nil =>
    intro i
    constructor
    · intro _ j hj; exact absurd hj (by simp)
    · intro _; rfl
  | cons r L ih =>
    intro i
    unfold findBad
    cases h : okRule n r
    · rw [if_neg (by decide)]
      constructor
      · intro h0; unfold badE at h0; dsimp only at h0; split at h0 <;> omega
      · intro h0; have := h0 0 (by simp); simp [h] at this
    · rw [if_pos rfl, ih (i + 1)]
      constructor
      · intro h0 j hj
        cases j with
        | zero => exact h
        | succ j => exact h0 j (by simpa using hj)
      · intro h0 j hj; exact h0 (j + 1) (by simpa using hj)
theorem rck_app {A : List RV} {x : RV} (h0 : 0 < A.length) (h : (rck 64 (A ++ [x])).2 = 0) : (rck 64 A).2 = 0 := by
  have hl := rck_len h
  rw [List.length_append, List.length_singleton] at hl
  unfold rck at h ⊢
  rw [if_neg (by rw [List.length_append]; omega), if_neg (by rw [List.length_append, List.length_singleton]; omega)] at h
  rw [if_neg (by omega), if_neg (by omega)]
  have hs : headSheet (A ++ [x]) = headSheet A := by
    cases A with
    | nil => cases h0
    | cons r A => rfl
  rw [hs] at h
  split at h
  · rename_i hh
    rw [if_pos hh]
    rw [findBad_zero] at h ⊢
    intro j hj
    have := h j (by rw [List.length_append]; omega)
    rwa [List.getElem_append_left hj] at this
  · simp at h
theorem at_app {A : List RV} {x : RV} {p q : Int} (h0 : 0 < A.length) (ho : okR p q = true) (h : (rck 64 (A ++ [x])).2 = 0) :
    whE p q A = 0 ∧ whE p q (A ++ [x]) = 0 ∧ atR p q (A ++ [x]) = if hasR x p q then x else atR p q A := by
  have e1 := (wh_ok ho (rck_app h0 h)).2
  have e2 := (wh_ok ho h).2
  refine ⟨e1, e2, ?_⟩
  unfold atR
  rw [if_pos e1, if_pos e2, lastI_x]
  have hlt := lastI_lt A p q A.length h0
  cases hasR x p q
  · unfold ruleAt
    simp only [Bool.false_eq_true, if_false]
    rw [List.getD_eq_getElem?_getD, List.getD_eq_getElem?_getD, List.getElem?_append_left hlt]
  · unfold ruleAt
    simp
theorem Box3.heap {w : World} {g : Nat} {x y z : Int} {t : TypeId} (h : w.heap[g]? = some (.cells #[.int .u64 x, .int .u64 y, .int .u64 z] t)) : Box3 w g x y z :=
  ⟨(Array.getElem?_eq_some_iff.1 h).1, by simp [World.cell?, h], by simp [World.cell?, h], by simp [World.cell?, h]⟩
def CutA (E : Int) (w1 : World) (c e : Value) (wx : World) : Prop := (∃ c1 : Int, c = .int .i64 c1) ∧ e = .int .i64 E ∧ Below w1.heap.size w1 wx
theorem undrew {B : Nat} {w w' : World} (h : Below B w.drew w') : Below B w w' := ⟨h.os, h.tape, h.output, h.size, h.block⟩
theorem OwnOf.weaken {α : Type} {c : α → List Value} {n : Nat} {e : TypeId} {B B' : Nat} {w : World} {v : Value} {L : List α} (h : OwnOf e c n B w v L) (hB : B' ≤ B) : OwnOf e c n B' w v L := by
  obtain ⟨h1, h2⟩ := h
  refine ⟨h1, ?_⟩
  rcases h2 with h2 | ⟨g, cap, cur, rfl, hg, hrest⟩
  · exact .inl h2
  · exact .inr ⟨g, cap, cur, rfl, by omega, hrest⟩
set_option maxRecDepth 100000 in
set_option maxHeartbeats 6400000 in
theorem aclLast_any (x5 x6 x7 : W64) (a : Option Addr) (len cap : Nat) (L : List RV) (x : RV) (p q : Int) (w : World) (hm : len * 56 ≤ 140737488351232) (hL : IsL w a len L) :
    Calls Try.prog 7 #[.agg #[.int .u64 (x5.toNat : Int), .int .u64 (x6.toNat : Int), .int .u64 (x7.toNat : Int)], .slice a len cap, .agg (cells7 x).toArray, .agg #[.int .i64 p, .int .i64 q]] w fun e w' => e = .returned (.bool true) ∧ Below w.heap.size w w' := by
  have HL := Lib.hid hL
  have HLL := Lib.hid hL.1
  clear hL
  have HXX := Lib.hid (fun (h : 0 < (⟨1, 1, 1024, 1024, x5, x6, x7⟩ :: L : List RV).length) => at_app (A := ⟨1, 1, 1024, 1024, x5, x6, x7⟩ :: L) (x := x) (p := p) (q := q) h)
  obtain ⟨y1, y2, y3, y4, y5, y6, y7⟩ := x
  unfold cells7
  have HB0 := Lib.hid ((((Below.refl w.heap.size w).alloc (Nat.le_refl _) (.cells #[.int .u64 (x5.toNat : Int), .int .u64 (x6.toNat : Int), .int .u64 (x7.toNat : Int)] 47)).alloc (by simp) (.cells #[.int .i64 y1, .int .i64 y2, .int .i64 y3, .int .i64 y4, .int .u64 (y5.toNat : Int), .int .u64 (y6.toNat : Int), .int .u64 (y7.toNat : Int)] 60)).alloc (by simp; omega) (.cells #[.int .i64 p, .int .i64 q] 44))
  dsimp only at *
  go_enter Try.func7, Try.ntmps7
  go_wp2_with fail
  have HX0 := Lib.hid ((Box7.start (w.alloc (.cells #[.int .u64 (x5.toNat : Int), .int .u64 (x6.toNat : Int), .int .u64 (x7.toNat : Int)] 47)) ⟨y1, y2, y3, y4, y5, y6, y7⟩ 60).later (below_alloc _ (.cells #[.int .i64 p, .int .i64 q] 44)))
  have HT0 := Lib.hid (Two'.start ((w.alloc (.cells #[.int .u64 (x5.toNat : Int), .int .u64 (x6.toNat : Int), .int .u64 (x7.toNat : Int)] 47)).alloc (.cells (cells7 ⟨y1, y2, y3, y4, y5, y6, y7⟩).toArray 60)) p q 44)
  rw [World.size_alloc, World.size_alloc] at HT0
  rw [World.size_alloc] at HX0
  unfold cells7 at HX0 HT0
  dsimp only at HX0 HT0
  generalize ((w.alloc (.cells #[.int .u64 (x5.toNat : Int), .int .u64 (x6.toNat : Int), .int .u64 (x7.toNat : Int)] 47)).alloc (.cells #[.int .i64 y1, .int .i64 y2, .int .i64 y3, .int .i64 y4, .int .u64 (y5.toNat : Int), .int .u64 (y6.toNat : Int), .int .u64 (y7.toNat : Int)] 60)).alloc (.cells #[.int .i64 p, .int .i64 q] 44) = w0 at *
  have hm2 : (1 + len) * 56 ≤ 140737488355328 := by omega
  refine (whole_any x5 x6 x7 a len cap L hm2 _ (HL.out.later HB0.out)).mono ?_
  rintro e w1 ⟨⟨v, rfl, ho⟩, hB1⟩
  obtain ⟨aa, acap, rfl, hi⟩ := ho.isOf cells7_len
  have HB1 := Lib.hid (Below.next HB0.out hB1)
  have HT1 := Lib.hid (HT0.out.later hB1)
  have HX1 := Lib.hid (HX0.out.later hB1)
  have HI1 := Lib.hid hi
  clear ho hi hB1 HT0 HX0
  have HAL : Hid ((⟨1, 1, 1024, 1024, x5, x6, x7⟩ :: L : List RV).length = len + 1) := by unfold Hid; rw [List.length_cons, HLL.out]
  generalize (⟨1, 1, 1024, 1024, x5, x6, x7⟩ :: L : List RV) = A at *
  rw [HAL.out] at HI1 ⊢
  have hX : Hid (0 < A.length) := by unfold Hid; rw [HAL.out]; omega
  obtain ⟨A2, hA2⟩ : ∃ A2, A2 = A ++ [(⟨y1, y2, y3, y4, y5, y6, y7⟩ : RV)] := ⟨_, rfl⟩
  have HA2 := Lib.hid hA2
  have HAL2 : Hid (A2.length = len + 2) := by unfold Hid; rw [hA2, List.length_append, HAL.out]; rfl
  have HAT := Lib.hid (fun ho h => HXX.out hX.out ho h)
  rw [← hA2] at HAT
  have HRA : Hid ((rck 64 A2).2 = 0 → (rck 64 A).2 = 0) := by
    intro h; rw [hA2] at h; exact rck_app hX.out h
  clear hA2 HXX
  have hz01 := HB1.out.size
  obtain ⟨_, d1, d2, d3, d4, d5, d6, d7⟩ := HX1.out
  dsimp only at *
  go_wp2_with fail
  go_cut [10, 11] (fun c e wx => CutA (rck 64 A2).2 w1 c e wx)
  case first =>
    go_region_law (first
      | (go_simp; refine (copyrules_any aa (len + 1) acap A (by omega) _ (by first | exact HI1.out | exact IsOf.later (w := w1.drew) HI1.out (below_alloc _ _))).mono ?_
         rintro e w2 ⟨⟨v2, rfl, ho2⟩, hB2⟩
         have hB12 : Below w1.heap.size w1 w2 := by first | exact undrew hB2 | exact undrew (Below.next (W := w1.drew) (below_alloc w1.drew _) hB2)
         have HO2 := Lib.hid (OwnOf.weaken (B' := w1.heap.size) ho2 (by simp))
         have HB2 := Lib.hid hB2
         have HB12 := Lib.hid hB12
         obtain ⟨_, d1, d2, d3, d4, d5, d6, d7⟩ := HX1.out.later hB12
         dsimp only at d1 d2 d3 d4 d5 d6 d7
         clear ho2 hB2 hB12)
      | (refine step_appOf rfl (.tmp 21) (.tmp 23) 36 rfl Try.underlying36 _ 56 infoRule zero7 (by decide) (by decide) cells7_len cells7_one w1.heap.size _ A rfl (by first | exact HO2.out | exact HO2.out.alloc _) _ 1 1 [⟨y1, y2, y3, y4, y5, y6, y7⟩] rfl (by first | exact isOf_new _ _ _ _ rfl | exact (isOf_new w1.drew _ _ _ rfl).later HB2.out) (by rw [HAL.out]; omega) (by have := HB12.out.size; simp; omega) ?_
         intro v3 w3 ho3 hb3
         rw [← HA2.out] at ho3
         obtain ⟨a3, cap3, rfl, hi3⟩ := ho3.isOf cells7_len
         rw [HAL2.out] at hi3 ⊢
         have HI3 := Lib.hid hi3
         have HB3 : Hid (Below w1.heap.size w1 w3) := by first | exact HB12.out.trans hb3 | exact (HB12.out.alloc HB12.out.size _).trans hb3
         clear ho3 hi3 hb3)
      | (go_simp; refine (scheck_big 64 a3 (len + 2) cap3 A2 _ HI3.out).mono ?_
         rintro e w4 ⟨rfl, hB4⟩
         have HB4 := Lib.hid (Below.next HB3.out hB4)
         unfold ckV
         clear hB4))
    all_goals
      generalize (rck 64 A2).1 = c1 at *
      go_wp2_with fail
      go_meet
      exact ⟨⟨_, rfl⟩, rfl, HB4.out⟩
  case rest =>
  obtain ⟨⟨c1, rfl⟩, rfl, hBc⟩ := hcut
  have HBc := Lib.hid (Below.next HB1.out hBc)
  have HTc := Lib.hid (HT1.out.later hBc)
  have HXc := Lib.hid (HX1.out.later hBc)
  have HIc := Lib.hid (HI1.out.later hBc)
  clear hBc d1 d2 d3 d4 d5 d6 d7 HB1 HT1 HX1 HI1 HB0
  by_cases hc : (rck 64 A2).2 = 0
  · have HC := Lib.hid hc
    have hl64 := rck_len hc
    rw [HAL2.out] at hl64
    rw [hc]
    clear hc
    by_cases hl : 60 < len
    · go_wp2_with fail
      go_ret
      exact ⟨rfl, HBc.out⟩
    · have hd60 : decide ((60 : Int) < (len : Int)) = false := by simp; omega
      obtain ⟨_, t1, t2⟩ := HTc.out
      go_wp2_with fail
      refine (saddress_any p q _).mono ?_
      rintro e w3 ⟨rfl, hB3⟩
      have HB3 := Lib.hid (Below.next HBc.out hB3)
      have HT3 := Lib.hid (HTc.out.later hB3)
      have HX3 := Lib.hid (HXc.out.later hB3)
      have HI3 := Lib.hid (HIc.out.later hB3)
      clear hB3 HTc HXc HIc HBc t1 t2
      cases hok : okR p q
      · clear hok HAT
        go_wp2_with fail
        go_ret
        exact ⟨rfl, HB3.out⟩
      · obtain ⟨e1, e2, e3⟩ := HAT.out hok HC.out
        have HE1 := Lib.hid e1
        have HE2 := Lib.hid e2
        have HE3 := Lib.hid e3
        clear hok HAT e1 e2 e3
        obtain ⟨_, t1, t2⟩ := HT3.out
        go_wp2_with fail
        refine (aat_any p q aa (len + 1) acap A (by omega) _ HI3.out).mono ?_
        rw [HE1.out]
        rintro e w4 ⟨rfl, hB4⟩
        have HB4 := Lib.hid (Below.next HB3.out hB4)
        have HT4 := Lib.hid (HT3.out.later hB4)
        have HX4 := Lib.hid (HX3.out.later hB4)
        have HI4 := Lib.hid (HI3.out.later hB4)
        clear hB4 HT3 HX3 HI3 HB3 t1 t2
        have HR4 := Lib.hid (Box3.start w4 ((atR p q A).rd.toNat : Int) ((atR p q A).wr.toNat : Int) ((atR p q A).ow.toNat : Int) 47)
        have HBz := Lib.hid (Below.next HB4.out (below_alloc w4 (.cells #[.int .u64 ((atR p q A).rd.toNat : Int), .int .u64 ((atR p q A).wr.toNat : Int), .int .u64 ((atR p q A).ow.toNat : Int)] 47)))
        have HTz := Lib.hid (HT4.out.later (below_alloc w4 (.cells #[.int .u64 ((atR p q A).rd.toNat : Int), .int .u64 ((atR p q A).wr.toNat : Int), .int .u64 ((atR p q A).ow.toNat : Int)] 47)))
        have HXz := Lib.hid (HX4.out.later (below_alloc w4 (.cells #[.int .u64 ((atR p q A).rd.toNat : Int), .int .u64 ((atR p q A).wr.toNat : Int), .int .u64 ((atR p q A).ow.toNat : Int)] 47)))
        have HIz := Lib.hid (HI4.out.later (below_alloc w4 (.cells #[.int .u64 ((atR p q A).rd.toNat : Int), .int .u64 ((atR p q A).wr.toNat : Int), .int .u64 ((atR p q A).ow.toNat : Int)] 47)))
        unfold rightsV
        go_wp2_with fail
        clear HB4 HT4 HX4 HI4
        generalize w4.alloc (.cells #[.int .u64 ((atR p q A).rd.toNat : Int), .int .u64 ((atR p q A).wr.toNat : Int), .int .u64 ((atR p q A).ow.toNat : Int)] 47) = wz at *
        refine wp_region_seqo (fun X => Below wz.heap.size wz X) wz.heap.size
          [fbC (.agg #[.int .i64 p, .int .i64 q]), fbC (.slice aa (len + 1) acap), fbL 60 cells7 7 wz.heap.size A, fbC (.agg #[.int .i64 y1, .int .i64 y2, .int .i64 y3, .int .i64 y4, .int .u64 (y5.toNat : Int), .int .u64 (y6.toNat : Int), .int .u64 (y7.toNat : Int)]),
            fbN (fun g => .slice (some ⟨g, 0, none⟩) 1 1) wz.heap.size (.cells #[.int .i64 y1, .int .i64 y2, .int .i64 y3, .int .i64 y4, .int .u64 (y5.toNat : Int), .int .u64 (y6.toNat : Int), .int .u64 (y7.toNat : Int)] 60), fbL 60 cells7 7 wz.heap.size A2,
            fbC (.tuple #[rightsV (atR p q A2), .int .i64 0]), fbC (.tuple #[rightsV (atR p q A2), .int .i64 0]), fbC (rightsV (atR p q A2)), fbC (.int .i64 0),
            fbN (fun g => .pointer (some ⟨g, 0, none⟩)) wz.heap.size (.cells #[.int .u64 0, .int .u64 0, .int .u64 0] 47),
            fbS 10 wz.heap.size (.cells #[.int .u64 ((atR p q A2).rd.toNat : Int), .int .u64 ((atR p q A2).wr.toNat : Int), .int .u64 ((atR p q A2).ow.toNat : Int)] 47), fbC (.int .i64 0)]
          [[], [], [], [], [], [2], [], [], [], [], [], [10]] [[], [], [], [], [], [], [], [], [], [], [], [10]] [[], [], [1], [], [3], [2, 4], [0, 5], [6], [7], [7], [], [10, 8], [9]]
          (fun a b h k => k.trans h) (by kernel_rfl) (by kernel_rfl) (by kernel_rfl) ⟨rfl, rfl, rfl, Nat.le_refl _, fun _ _ => rfl⟩ (Nat.le_refl _) ?_ (by kernel_rfl)
          ⟨good_C _ _, good_C _ _, good_L _, good_C _ _, good_N _ (fun _ => rfl), good_L _, good_C _ _, good_C _ _, good_C _ _, good_C _ _, good_N _ (fun _ => rfl), good_S (by decide), good_C _ _, trivial⟩ (Nat.le_refl 13)
        simp only [putsL, Act.put, List.setIfInBounds_toArray, List.set_cons_zero, List.set_cons_succ, Nat.zero_add, Nat.reduceAdd]
        refine seqo_cons (obo_run rfl (fun vs W hD => rfl) (fun vs W hS hD => ?_)) ?_
        · obtain ⟨_, t1, t2⟩ := HTz.out.later hS
          go_simp; done
        refine seqo_cons (obo_run rfl (fun vs W hD => rfl) (fun vs W hS hD => ?_)) ?_
        · go_simp; done
        refine seqo_cons (obo_list rfl (f := 21) (fun vs => #[.slice aa (len + 1) acap]) (fun vs W hD => rfl) (fun vs W hS hD => ?_) (fun vs W hS hZ hD => ?_)) ?_
        · have h1 : vs 1 = _ := hD.1
          go_simp; done
        · exact copyrules_any aa (len + 1) acap A (by omega) W (HIz.out.later hS)
        refine seqo_cons (obo_run rfl (fun vs W hD => rfl) (fun vs W hS hD => ?_)) ?_
        · obtain ⟨_, d1, d2, d3, d4, d5, d6, d7⟩ := HXz.out.later hS
          dsimp only at d1 d2 d3 d4 d5 d6 d7
          go_simp; done
        refine seqo_cons (obo_new rfl (fun _ => rfl) (fun vs W hD => rfl) (fun vs W hS hD => ?_)) ?_
        · have h1 : vs 3 = _ := hD.1
          go_simp; done
        refine seqo_cons (obo_app (M := A) (N := [⟨y1, y2, y3, y4, y5, y6, y7⟩]) (j := 2) (by rw [← HA2.out]; rfl) rfl (by decide) (fun vs W hD => rfl) (.tmp 49) (.tmp 51) 36 rfl Try.underlying36 _ 56 infoRule zero7 (by decide) (by decide) cells7_len cells7_one 1 (by rw [HAL.out]; omega) (fun vs W hS hZ hD => ?_)) ?_
        · obtain ⟨h2, ⟨g, h4, hg, hh⟩, _⟩ := hD
          exact ⟨rfl, h2, some ⟨g, 0, none⟩, 1, h4, isOf_heap hh rfl⟩
        refine seqo_cons (obo_call rfl (f := 26) (fun vs => #[.agg #[.int .i64 p, .int .i64 q], vs 5]) (fun vs W hD => rfl) (fun vs W hS hD => ?_) (fun vs W hS hZ hD => ?_)) ?_
        · have h0 : vs 0 = _ := hD.1
          go_simp; done
        · obtain ⟨_, h5, _⟩ := hD
          obtain ⟨a2, cap2, he, hi⟩ := OwnOf.isOf cells7_len h5
          rw [HAL2.out] at he hi
          rw [he]
          refine (aat_any p q a2 (len + 2) cap2 A2 (by omega) W hi).mono ?_
          rintro e w5 ⟨rfl, hB⟩
          rw [HE2.out]
          exact ⟨rfl, hB⟩
        refine seqo_cons (obo_run rfl (fun vs W hD => rfl) (fun vs W hS hD => ?_)) ?_
        · have h6 : vs 6 = _ := hD.1
          go_simp; done
        refine seqo_cons (obo_run rfl (fun vs W hD => rfl) (fun vs W hS hD => ?_)) ?_
        · have h6 : vs 7 = _ := hD.1
          go_simp; done
        refine seqo_cons (obo_run rfl (fun vs W hD => rfl) (fun vs W hS hD => ?_)) ?_
        · have h6 : vs 7 = _ := hD.1
          go_simp; done
        refine seqo_cons (obo_new rfl (fun _ => rfl) (fun vs W hD => rfl) (fun vs W hS hD => ?_)) ?_
        · go_simp; done
        refine seqo_cons (obo_store (j := 10) rfl rfl (by decide) (fun vs W hD => rfl) (fun vs W hS hZ hD => ?_)) ?_
        · obtain ⟨⟨g, h10, hg, hh⟩, h8, _⟩ := hD
          have h10 : vs 10 = _ := h10
          have h8 : vs 8 = rightsV (atR p q A2) := h8
          unfold rightsV at h8
          have hs := set3 W g 47 _ _ _ (.int .u64 ((atR p q A2).rd.toNat : Int)) (.int .u64 ((atR p q A2).wr.toNat : Int)) (.int .u64 ((atR p q A2).ow.toNat : Int)) hh
          refine ⟨g, _, h10, hg, (Array.getElem?_eq_some_iff.1 hh).1, ?_, hs.1, hs.2⟩
          have c0 : W.cell? ⟨g, 0, none⟩ = some (.int .u64 0) := by simp [World.cell?, hh]
          have c1 : W.cell? ⟨g, 1, none⟩ = some (.int .u64 0) := by simp [World.cell?, hh]
          have c2 : W.cell? ⟨g, 2, none⟩ = some (.int .u64 0) := by simp [World.cell?, hh]
          have f0 : W.frozen? ⟨g, 0, none⟩ = false := by simp [World.frozen?, hh]
          have f1 : W.frozen? ⟨g, 1, none⟩ = false := by simp [World.frozen?, hh]
          have f2 : W.frozen? ⟨g, 2, none⟩ = false := by simp [World.frozen?, hh]
          clear hs hh
          go_simp; done
        refine seqo_cons (obo_run rfl (fun vs W hD => rfl) (fun vs W hS hD => ?_)) ?_
        · have h6 : vs 9 = _ := hD.1
          go_simp; done
        refine seqo_end fun vs W hS hZ hv => ?_
        obtain ⟨h0, h1, _, h3, h4, _, h6, h7, h8, h9, _, h11, h12, _⟩ := hv
        have h0 : vs 0 = _ := h0 rfl
        have h1 : vs 1 = _ := h1 rfl
        have h3 : vs 3 = _ := h3 rfl
        have h6 : vs 6 = _ := h6 rfl
        have h7 : vs 7 = _ := h7 rfl
        have h8 : vs 8 = _ := h8 rfl
        have h9 : vs 9 = _ := h9 rfl
        have h12 : vs 12 = _ := h12 rfl
        obtain ⟨g, h10, hg, hh⟩ := h11 rfl
        have hbx := Box3.heap hh
        have HBX := Lib.hid hbx
        have HBW := Lib.hid (Below.next HBz.out hS)
        have HRW := Lib.hid (HR4.out.later hS)
        have HTW := Lib.hid (HTz.out.later hS)
        have HXW := Lib.hid (HXz.out.later hS)
        simp only [h0, h1, h3, h6, h7, h8, h9, h10, h12]
        clear h0 h1 h3 h4 h6 h7 h8 h9 h10 h11 h12 hh hbx hg hS hZ HBz HR4 HTz HXz HIz
        unfold rightsV
        obtain ⟨_, t1, t2⟩ := HTW.out
        obtain ⟨_, d1, d2, d3, d4, d5, d6, d7⟩ := HXW.out
        obtain ⟨_, r1, r2, r3⟩ := HRW.out
        obtain ⟨_, b1, b2, b3⟩ := HBX.out
        dsimp only at d1 d2 d3 d4 d5 d6 d7
        go_wp2_with fail
        refine (shas19_any y1 y2 y3 y4 p q _).mono ?_
        rintro e w6 ⟨rfl, hB6⟩
        have HB6 := Lib.hid (Below.next HBW.out hB6)
        have HR6 := Lib.hid (HRW.out.later hB6)
        have HX6 := Lib.hid (HXW.out.later hB6)
        have HBX6 := Lib.hid (HBX.out.later hB6)
        clear hB6 t1 t2 d1 d2 d3 d4 d5 d6 d7 r1 r2 r3 b1 b2 b3 HBW HRW HXW HBX HTW
        have e3 := HE3.out
        unfold hasR at e3
        dsimp only at e3
        clear HE3 HE1 HE2
        cases hz : rhB y1 y2 y3 y4 p q
        · rw [hz, if_neg (by decide)] at e3
          rw [e3] at HBX6 ⊢
          clear e3 hz
          generalize (atR p q A).rd = v1 at *
          generalize (atR p q A).wr = v2 at *
          generalize (atR p q A).ow = v3 at *
          obtain ⟨_, r1, r2, r3⟩ := HR6.out
          obtain ⟨_, b1, b2, b3⟩ := HBX6.out
          go_wp2_with fail
          refine (example_any _).mono ?_
          rintro e w7 ⟨rfl, hB7⟩
          have HB7 := Lib.hid (Below.next HB6.out hB7)
          go_wp2_with fail
          go_ret
          exact ⟨rfl, HB7.out⟩
        · rw [hz, if_pos rfl] at e3
          rw [e3] at HBX6 ⊢
          clear e3 hz
          dsimp only at HBX6 ⊢
          obtain ⟨_, d1, d2, d3, d4, d5, d6, d7⟩ := HX6.out
          obtain ⟨_, b1, b2, b3⟩ := HBX6.out
          dsimp only at d1 d2 d3 d4 d5 d6 d7
          go_wp2_with fail
          go_ret
          exact ⟨rfl, HB6.out⟩
  · generalize (rck 64 A2).2 = c2 at *
    have hc' : (c2 == 0) = false := by simpa using hc
    have hc'' : (c2 != 0) = true := by simpa using hc
    go_wp2_with fail
    go_ret
    exact ⟨rfl, HBc.out⟩
theorem aclLast_law (a1 a2 a3 : Int) (a : Option Addr) (len cap : Nat) (L : List RV) (x : RV) (p q : Int) (w : World) (h1 : (Lit.int .u64 a1).wf = true) (h2 : (Lit.int .u64 a2).wf = true) (h3 : (Lit.int .u64 a3).wf = true) (hL : IsL w a len L) (hm : len * 56 ≤ 140737488351232) :
    Calls Try.prog 7 #[.agg #[.int .u64 a1, .int .u64 a2, .int .u64 a3], .slice a len cap, .agg (cells7 x).toArray, .agg #[.int .i64 p, .int .i64 q]] w fun e w' => e = .returned (.bool true) ∧ Below w.heap.size w w' := by
  obtain ⟨x5, rfl⟩ := u64_word h1
  obtain ⟨x6, rfl⟩ := u64_word h2
  obtain ⟨x7, rfl⟩ := u64_word h3
  exact aclLast_any x5 x6 x7 a len cap L x p q w hm hL
end Go.Proofs.Ytelnffamkkkpaaa.Re
