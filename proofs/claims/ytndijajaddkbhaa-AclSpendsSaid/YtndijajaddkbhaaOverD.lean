/- The contract of down. -/
import Derived.Test.YtndijajaddkbhaaOverC
namespace Go.Proofs.Ytndijajaddkbhaa.Re
open Go.RowKit AM
/-- The contract at a rule. -/
def DownAt (W0 : World) (A : Option Addr) (len cap : Nat) (L : List RV) (i : Nat) : Prop :=
  ∀ (r1 r2 r3 r4 : Int) (P : List (R4 × Nat)) (v : Value) (w : World), (⟨r1, r2, r3, r4⟩ : R4).ck = true → (P.length : Int) + area4 ⟨r1, r2, r3, r4⟩ ≤ 1100000 → Sd W0 A len cap w v P →
    Calls Try.prog 119 #[.agg #[.int .i64 r1, .int .i64 r2, .int .i64 r3, .int .i64 r4], .int .i64 (i : Int), ptrV (W0.heap.size + 1), ptrV (W0.heap.size + 3), ptrV (W0.heap.size + 2)] w fun e w' =>
      (∃ u, e = .returned u) ∧ ∃ v', Sd W0 A len cap w' v' (P ++ downL L i ⟨r1, r2, r3, r4⟩) ∧ St W0.heap.size w v w' v'
theorem downL_f {L : List RV} {k : Nat} {r : R4} (h : mt4 r (rr4 (ruleAt L (k + 1))) = false) : downL L (k + 1) r = downL L k r := by
  rw [downL, if_neg (by rw [h]; decide)]
theorem sheet_mt {L : List RV} (hs : isSheet (ruleAt L 0) = true) {r : R4} (hr : r.ck = true) : mt4 r (rr4 (ruleAt L 0)) = true := by
  unfold isSheet at hs
  have h0 := of_decide_eq_true hs
  unfold R4.ck at hr
  unfold mt4 mtB rr4
  rw [hr]
  obtain ⟨e1, e2, e3, e4⟩ := h0
  dsimp only
  rw [e1, e2, e3, e4]
  rw [ckB_iff] at hr
  have : emB (max r.c1 1) (max r.r1 1) (min r.c2 1024) (min r.r2 1024) = false := by
    unfold emB
    apply decide_eq_false
    omega
  rw [this]; decide
theorem downL_t {L : List RV} {i : Nat} {r : R4} (hs : isSheet (ruleAt L 0) = true) (hr : r.ck = true) (h : mt4 r (rr4 (ruleAt L i)) = true) :
    downL L i r = (meet4 r (rr4 (ruleAt L i)), i) :: (mnL r (meet4 r (rr4 (ruleAt L i)))).flatMap (downL L (i - 1)) ∧ (i = 0 → mnL r (meet4 r (rr4 (ruleAt L i))) = []) := by
  cases i with
  | zero =>
    have e := mnL_meet hr (s := rr4 (ruleAt L 0)) (fun p q hp => by
      unfold isSheet at hs
      have h0 := of_decide_eq_true hs
      unfold R4.ck at hr
      rw [ckB_iff] at hr
      rw [has4_iff] at hp ⊢
      unfold rr4
      dsimp only
      omega) h
    rw [e, downL, if_pos h]
    exact ⟨rfl, fun _ => rfl⟩
  | succ k => exact ⟨by rw [downL, if_pos h]; rfl, fun h => by cases h⟩
/-- The rest's row stays. -/
def Keep3 (n0 : Nat) (a3 : Option Addr) (l : List R4) (w : World) (v : Value) : Prop := 0 < l.length → ∃ g, a3 = some ⟨g, 0, none⟩ ∧ g ≠ n0 + 2 ∧ some g ≠ v.ownBlock ∧ RRow w g 0 l
theorem Keep3.next {n0 : Nat} {a3 : Option Addr} {l : List R4} {w w1 w' : World} {v v' : Value} (h : Keep3 n0 a3 l w v) (hB : Below w.heap.size w w1) (hT : St n0 w1 v w' v') : Keep3 n0 a3 l w' v' := by
  intro hl
  obtain ⟨g, h1, h2, h3, h4⟩ := h hl
  have hlt := h4.1
  have hs := hB.size
  refine ⟨g, h1, h2, ?_, RRow.far h4 ((hT.dn.block g (by omega) h2 h3).trans (hB.block g hlt)) (Nat.le_trans hB.size hT.dn.size)⟩
  rcases hT.rw with e | ⟨g', e, hg'⟩
  · rw [e]; exact h3
  · rw [e]; intro e2; injection e2 with e2; omega
set_option maxRecDepth 100000 in
set_option maxHeartbeats 6400000 in
theorem down_step (W0 : World) (b off len cap : Nat) (L : List RV) (hW : IsL W0 (some ⟨b, off, none⟩) len L) (hL : ∀ k, k < L.length → (rr4 (ruleAt L k)).ck = true) (hs : isSheet (ruleAt L 0) = true) (hlen : len ≤ 64) (i : Nat) (hi : i < len)
    (IH : ∀ k, i = k + 1 → DownAt W0 (some ⟨b, off, none⟩) len cap L k) : DownAt W0 (some ⟨b, off, none⟩) len cap L i := by
  intro r1 r2 r3 r4 P v w hr hP hS
  have hiL : i < L.length := by rw [hW.1]; exact hi
  have hRC := hL i hiL
  obtain ⟨b', off', hbo, hrow⟩ := hW.2 (by omega)
  injection hbo with hbo
  injection hbo with hb1 hb2
  subst hb1; subst hb2
  have hq := RowOf.seven hrow i hiL
  have hDF : ∀ k, i = k + 1 → mt4 ⟨r1, r2, r3, r4⟩ (rr4 (ruleAt L i)) = false → downL L i ⟨r1, r2, r3, r4⟩ = downL L k ⟨r1, r2, r3, r4⟩ := by
    intro k hk; subst hk; exact downL_f
  have hDT := downL_t (L := L) (i := i) hs hr
  have h0i : mt4 ⟨r1, r2, r3, r4⟩ (rr4 (ruleAt L i)) = false → ∃ k, i = k + 1 := by
    intro hm
    cases i with
    | zero => rw [sheet_mt hs hr] at hm; cases hm
    | succ k => exact ⟨k, rfl⟩
  have hLen : ∀ k, k < L.length → ∀ {N : Int} {l : List R4}, (∀ y ∈ l, y.ck = true) → areas l ≤ N → ∀ j (hj : j < l.length), (((l.take j).flatMap (downL L k)).length : Int) + area4 l[j] ≤ N := fun k hk N l h1 h2 => rest_fits L hL k hk h1 h2
  have hbW := hrow.1
  rw [ruleAt_get hiL] at hDF hDT h0i hRC
  have HS := Lib.hid hS
  have HP := Lib.hid hP
  have HDF := Lib.hid hDF
  have HDT := Lib.hid hDT
  have H0I := Lib.hid h0i
  have HRC := Lib.hid hRC
  have HROW : Hid (∀ q, v.ownBlock = some q → q < w.heap.size) := fun q hq => (hS.row q hq).2
  have HLB : Hid (W0.heap.size + 3 < w.heap.size) := hS.dbx.lt
  have HR := Lib.hid hr
  have HIH := Lib.hid IH
  have HLEN := Lib.hid hLen
  have HLL := Lib.hid hW.1
  have HHL := Lib.hid hL
  have HHS := Lib.hid hs
  clear hS hP hDF hDT h0i hRC hr IH hW hL hs hrow hLen
  generalize L[i] = R at *
  obtain ⟨x1, x2, x3, x4, x5, x6, x7⟩ := R
  have HQ : Hid (Quad W0 b (off + i * 7) x1 x2 x3 x4) := ⟨hbW, hq.1, hq.2.1, hq.2.2.1, hq.2.2.2.1⟩
  clear hq hbW
  have f1 := Four.start w r1 r2 r3 r4 30
  have l1 := below_alloc w (.cells #[.int .i64 r1, .int .i64 r2, .int .i64 r3, .int .i64 r4] 30)
  have s1 := alloc_size w (.cells #[.int .i64 r1, .int .i64 r2, .int .i64 r3, .int .i64 r4] 30)
  have F1 := Lib.hid f1
  have L1 := Lib.hid l1
  have S1 := Lib.hid s1
  have HSw := Lib.hid (HS.out.below l1)
  clear f1 l1 s1
  go_enter Try.func119, Try.ntmps119
  go_wp2_with fail
  generalize w.alloc (.cells #[.int .i64 r1, .int .i64 r2, .int .i64 r3, .int .i64 r4] 30) = w0 at *
  have HSB := Lib.hid HSw.out.bel
  generalize hmt : mtB r1 r2 r3 r4 x1 x2 x3 x4 = mt
  have HMT := Lib.hid hmt
  clear hmt
  obtain ⟨m1, hm1⟩ : ∃ m1, m1 = bv mt (max r1 x1) := ⟨_, rfl⟩
  obtain ⟨m2, hm2⟩ : ∃ m2, m2 = bv mt (max r2 x2) := ⟨_, rfl⟩
  obtain ⟨m3, hm3⟩ : ∃ m3, m3 = bv mt (min r3 x3) := ⟨_, rfl⟩
  obtain ⟨m4, hm4⟩ : ∃ m4, m4 = bv mt (min r4 x4) := ⟨_, rfl⟩
  have HM1 := Lib.hid hm1
  have HM2 := Lib.hid hm2
  have HM3 := Lib.hid hm3
  have HM4 := Lib.hid hm4
  clear hm1 hm2 hm3 hm4
  refine wp_region_seqo (fun X => Below w0.heap.size w0 X) w0.heap.size
    [fbC (.agg #[.int .i64 r1, .int .i64 r2, .int .i64 r3, .int .i64 r4]), fbC (.slice (some ⟨b, off, none⟩) len cap), fbC (.int .i64 (i : Int)), fbC (.pointer (some ⟨b, off + i * 7, none⟩)), fbC (.pointer (some ⟨b, off + i * 7, none⟩)),
      fbC (.agg #[.int .i64 x1, .int .i64 x2, .int .i64 x3, .int .i64 x4]), fbC (.tuple #[.agg #[.int .i64 m1, .int .i64 m2, .int .i64 m3, .int .i64 m4], .bool mt]), fbC (.tuple #[.agg #[.int .i64 m1, .int .i64 m2, .int .i64 m3, .int .i64 m4], .bool mt]),
      fbC (.agg #[.int .i64 m1, .int .i64 m2, .int .i64 m3, .int .i64 m4]), fbC (.bool mt), fbN (fun g => .pointer (some ⟨g, 0, none⟩)) w0.heap.size (.cells #[.int .i64 0, .int .i64 0, .int .i64 0, .int .i64 0] 30),
      fbS 10 w0.heap.size (.cells #[.int .i64 m1, .int .i64 m2, .int .i64 m3, .int .i64 m4] 30), fbC (.bool mt)]
    [[], [], [], [], [], [], [], [], [], [], [], [10]] [[], [], [], [], [], [], [], [], [], [], [], [10]] [[], [], [], [1, 2], [3], [4], [0, 5], [6], [7], [7], [], [10, 8], [9]]
    (fun a b h k => k.trans h) (by kernel_rfl) (by kernel_rfl) (by kernel_rfl) ⟨rfl, rfl, rfl, Nat.le_refl _, fun _ _ => rfl⟩ (Nat.le_refl _) ?_ (by kernel_rfl)
    ⟨good_C _ _, good_C _ _, good_C _ _, good_C _ _, good_C _ _, good_C _ _, good_C _ _, good_C _ _, good_C _ _, good_C _ _, good_N _ (fun _ => rfl), good_S (by decide), good_C _ _, trivial⟩ (Nat.le_refl 13)
  simp only [putsL, Act.put, List.setIfInBounds_toArray, List.set_cons_zero, List.set_cons_succ, Nat.zero_add, Nat.reduceAdd]
  refine seqo_cons (obo_run rfl (fun vs W hD => rfl) (fun vs W hS hD => ?_)) ?_
  · obtain ⟨_, d1, d2, d3, d4⟩ := F1.out.later hS
    go_simp; done
  refine seqo_cons (obo_run rfl (fun vs W hD => rfl) (fun vs W hS hD => ?_)) ?_
  · have d1 := (HSw.out.below hS).rbx.cell
    go_simp; done
  refine seqo_cons (obo_run rfl (fun vs W hD => rfl) (fun vs W hS hD => ?_)) ?_
  · go_simp; done
  refine seqo_cons (obo_run rfl (fun vs W hD => rfl) (fun vs W hS hD => ?_)) ?_
  · have h1 : vs 1 = _ := hD.1
    have h2 : vs 2 = _ := hD.2.1
    go_simp; done
  refine seqo_cons (obo_run rfl (fun vs W hD => rfl) (fun vs W hS hD => ?_)) ?_
  · have h1 : vs 3 = _ := hD.1
    go_simp; done
  refine seqo_cons (obo_run rfl (fun vs W hD => rfl) (fun vs W hS hD => ?_)) ?_
  · have h1 : vs 4 = _ := hD.1
    obtain ⟨_, c1, c2, c3, c4⟩ := HQ.out.later (Below.next HSB.out hS)
    go_simp; done
  refine seqo_cons (obo_call rfl (f := 120) (fun vs => #[.agg #[.int .i64 r1, .int .i64 r2, .int .i64 r3, .int .i64 r4], .agg #[.int .i64 x1, .int .i64 x2, .int .i64 x3, .int .i64 x4]]) (fun vs W hD => rfl) (fun vs W hS hD => ?_) (fun vs W hS hZ hD => ?_)) ?_
  · have h1 : vs 0 = _ := hD.1
    have h2 : vs 5 = _ := hD.2.1
    go_simp; done
  · rw [HM1.out, HM2.out, HM3.out, HM4.out, ← HMT.out]
    exact rmeet_any r1 r2 r3 r4 x1 x2 x3 x4 W
  refine seqo_cons (obo_run rfl (fun vs W hD => rfl) (fun vs W hS hD => ?_)) ?_
  · have h1 : vs 6 = _ := hD.1
    go_simp; done
  refine seqo_cons (obo_run rfl (fun vs W hD => rfl) (fun vs W hS hD => ?_)) ?_
  · have h1 : vs 7 = _ := hD.1
    go_simp; done
  refine seqo_cons (obo_run rfl (fun vs W hD => rfl) (fun vs W hS hD => ?_)) ?_
  · have h1 : vs 7 = _ := hD.1
    go_simp; done
  refine seqo_cons (obo_new rfl (fun _ => rfl) (fun vs W hD => rfl) (fun vs W hS hD => ?_)) ?_
  · go_simp; done
  refine seqo_cons (obo_store (j := 10) rfl rfl (by decide) (fun vs W hD => rfl) (fun vs W hS hZ hD => ?_)) ?_
  · obtain ⟨⟨g, h10, hg, hh⟩, h8, _⟩ := hD
    have h10 : vs 10 = _ := h10
    have h8 : vs 8 = _ := h8
    have hs := set4 W g 30 _ _ _ _ (.int .i64 m1) (.int .i64 m2) (.int .i64 m3) (.int .i64 m4) hh
    refine ⟨g, _, h10, hg, (Array.getElem?_eq_some_iff.1 hh).1, ?_, hs.1, hs.2⟩
    have c0 : W.cell? ⟨g, 0, none⟩ = some (.int .i64 0) := by simp [World.cell?, hh]
    have c1 : W.cell? ⟨g, 1, none⟩ = some (.int .i64 0) := by simp [World.cell?, hh]
    have c2 : W.cell? ⟨g, 2, none⟩ = some (.int .i64 0) := by simp [World.cell?, hh]
    have c3 : W.cell? ⟨g, 3, none⟩ = some (.int .i64 0) := by simp [World.cell?, hh]
    have f0 : W.frozen? ⟨g, 0, none⟩ = false := by simp [World.frozen?, hh]
    have f1 : W.frozen? ⟨g, 1, none⟩ = false := by simp [World.frozen?, hh]
    have f2 : W.frozen? ⟨g, 2, none⟩ = false := by simp [World.frozen?, hh]
    have f3 : W.frozen? ⟨g, 3, none⟩ = false := by simp [World.frozen?, hh]
    clear hs hh
    go_simp; done
  refine seqo_cons (obo_run rfl (fun vs W hD => rfl) (fun vs W hS hD => ?_)) ?_
  · have h6 : vs 9 = _ := hD.1
    go_simp; done
  refine seqo_end fun vs W hS hZ hv => ?_
  obtain ⟨k0, k1, k2, k3, k4, k5, k6, k7, k8, k9, k10, k11, k12, kz⟩ := hv
  have h0 : vs 0 = _ := k0 rfl
  have h1 : vs 1 = _ := k1 rfl
  have h2 : vs 2 = _ := k2 rfl
  have h3 : vs 3 = _ := k3 rfl
  have h4 : vs 4 = _ := k4 rfl
  have h5 : vs 5 = _ := k5 rfl
  have h6 : vs 6 = _ := k6 rfl
  have h7 : vs 7 = _ := k7 rfl
  have h8 : vs 8 = _ := k8 rfl
  have h9 : vs 9 = _ := k9 rfl
  have h12 : vs 12 = _ := k12 rfl
  obtain ⟨g, h10, hg, hh⟩ := k11 rfl
  have HF1 := Lib.hid (F1.out.later hS)
  have HGW : Hid (w.heap.size < g) := by unfold Hid; have := S1.out; omega
  have HG : Hid (Four W g m1 m2 m3 m4) := ⟨(Array.getElem?_eq_some_iff.1 hh).1, by simp [World.cell?, hh], by simp [World.cell?, hh], by simp [World.cell?, hh], by simp [World.cell?, hh]⟩
  have HSW := Lib.hid (HSw.out.below hS)
  have LW := Lib.hid (Below.next L1.out hS)
  simp only [h0, h1, h2, h3, h4, h5, h6, h7, h8, h9, h10, h12]
  clear h0 h1 h2 h3 h4 h5 h6 h7 h8 h9 h10 h12 k0 k1 k2 k3 k4 k5 k6 k7 k8 k9 k10 k11 k12 kz hh hg hS hZ F1 HSw HSB HQ HS S1
  cases mt
  · obtain ⟨k, rfl⟩ := H0I.out HMT.out
    have d1 := HSW.out.dbx.cell
    obtain ⟨_, e1, e2, e3, e4⟩ := HF1.out
    go_wp2_with fail
    refine (HIH.out k rfl r1 r2 r3 r4 P v _ HR.out HP.out HSW.out).mono ?_
    rintro e w1 ⟨⟨u, rfl⟩, v1, hS1, hT1⟩
    have HS1 := Lib.hid hS1
    have HT1 := Lib.hid hT1
    clear hS1 hT1
    go_wp2_with fail
    refine bodyPost_ret (results_none rfl _ _ _) rfl ?_
    refine ⟨⟨_, rfl⟩, v1, ?_, (St.of_below LW.out).trans HT1.out⟩
    rw [HDF.out k rfl HMT.out]
    exact HS1.out
  · have d1 := HSW.out.lbx.cell
    obtain ⟨_, e1, e2, e3, e4⟩ := HF1.out
    obtain ⟨_, g1, g2, g3, g4⟩ := HG.out
    have hsz := HSW.out.bel.size
    have HO1 := Lib.hid (HSW.out.own.alloc (.cells #[.int .i64 m1, .int .i64 m2, .int .i64 m3, .int .i64 m4, .int .i64 (i : Int)] 119))
    have HI1 := Lib.hid (isOf_new (c := cells5) (n := 5) W #[.int .i64 m1, .int .i64 m2, .int .i64 m3, .int .i64 m4, .int .i64 (i : Int)] 119 ((⟨m1, m2, m3, m4⟩, i) : R4 × Nat) rfl)
    have HPL : Hid (P.length ≤ 2000000) := by unfold Hid; have h1 := HP.out; have h2 := area_pos HR.out; omega
    go_wp2_with (at_builtin; refine wpList_appP rfl (.tmp 30) (.tmp 34) rfl W0.heap.size v P rfl HO1.out W.heap.size (⟨m1, m2, m3, m4⟩, i) rfl HI1.out HPL.out (by simp; omega) ?_)
    intro v1 w1 ho1 hg1 hr1
    obtain ⟨hb1, hs1, ht1⟩ := HSW.out.appended ho1 hg1 (by rw [World.size_alloc]; exact hr1)
    have hq : ∃ q qc, v1 = .slice (some ⟨q, 0, none⟩) (P.length + 1) qc := by
      have := ho1
      unfold OwnP5 OwnOf at this
      rw [List.length_append, List.length_singleton] at this
      exact ownsRow_succ this
    obtain ⟨q, qc, rfl⟩ := hq
    have hb2 := hb1.cell
    have hb3 := hb1.frozen
    have F2 := Lib.hid (ht1.four HF1.out (by have := HLB.out; omega) HROW.out)
    have G2 := Lib.hid (ht1.four HG.out (by have := HLB.out; have := HGW.out; omega) (fun q hq => Nat.lt_trans (HROW.out q hq) HGW.out))
    have HS1 := Lib.hid hs1
    have HT1 := Lib.hid ((St.of_below LW.out).trans ht1)
    clear ho1 hg1 hr1 hb1 hs1 ht1 d1 e1 e2 e3 e4 g1 g2 g3 g4 HF1 HG HSW LW HO1 HI1
    obtain ⟨_, e1, e2, e3, e4⟩ := F2.out
    obtain ⟨_, g1, g2, g3, g4⟩ := G2.out
    go_wp2_with fail
    clear hb2 hb3
    generalize w1.setCell ⟨W0.heap.size + 2, 0, none⟩ (.slice (some ⟨q, 0, none⟩) (P.length + 1) qc) = w2 at *
    refine (minus_any r1 r2 r3 r4 m1 m2 m3 m4 _).mono ?_
    rintro e w3 ⟨⟨v3, rfl, ho3⟩, hB3⟩
    clear e1 e2 e3 e4 g1 g2 g3 g4
    have HS3 := Lib.hid (HS1.out.below hB3)
    have HT3 := Lib.hid (HT1.out.trans (St.of_below hB3))
    obtain ⟨a3, c3, rfl, hr3⟩ := ownR_row ho3
    obtain ⟨eD, eZ⟩ := HDT.out HMT.out
    have hmt4 : mt4 ⟨r1, r2, r3, r4⟩ (rr4 ⟨x1, x2, x3, x4, x5, x6, x7⟩) = true := HMT.out
    have hmck := meet4_ck hmt4
    have hmm : meet4 ⟨r1, r2, r3, r4⟩ (rr4 ⟨x1, x2, x3, x4, x5, x6, x7⟩) = ⟨m1, m2, m3, m4⟩ := by rw [HM1.out, HM2.out, HM3.out, HM4.out]; rfl
    have hm2 := mt4_meet hmt4
    rw [hmm] at eD eZ hmck hm2
    have hck := (mnL_ck HR.out hmck).1
    have har := mnL_area HR.out hmck hm2
    have hnl := len_areas hck
    have hrm := area_max HR.out
    have hk3 : Keep3 W0.heap.size a3 (mnL ⟨r1, r2, r3, r4⟩ ⟨m1, m2, m3, m4⟩) w3 (.slice (some ⟨q, 0, none⟩) (P.length + 1) qc) := by
      intro h0
      obtain ⟨g3, e1, e2, e3⟩ := hr3 h0
      have hl := HS1.out.lbx.lt
      refine ⟨g3, e1, by omega, fun e => ?_, e3⟩
      have := (HS1.out.row g3 e.symm).2
      omega
    generalize mnL ⟨r1, r2, r3, r4⟩ ⟨m1, m2, m3, m4⟩ = rest at *
    have hn : rest.length ≤ 1048576 := by omega
    have HK3 := Lib.hid hk3
    have HED := Lib.hid eD
    have HEZ := Lib.hid eZ
    have HCK := Lib.hid hck
    have HAR := Lib.hid har
    clear hmt4 ho3 hB3 hr3 hk3 eD eZ hmck hmm hm2 hck har hnl hrm
    clear HDT HDF H0I HMT HM1 HM2 HM3 HM4 HS1 HT1 F2 G2
    generalize mnE ⟨r1, r2, r3, r4⟩ ⟨m1, m2, m3, m4⟩ = E at *
    generalize hnn : rest.length = n at *
    have HNN := Lib.hid hnn
    clear hnn
    go_wp2_with fail
    go_loopw [44] (fun z wr => ∃ (k : Nat) (u : Value), k ≤ n ∧ z = .int .i64 (k : Int) ∧ Hid (Sd W0 (some ⟨b, off, none⟩) len cap wr u (P ++ ((⟨m1, m2, m3, m4⟩, i) :: (rest.take k).flatMap (downL L (i - 1))))) ∧ Hid (St W0.heap.size w v wr u) ∧ Hid (Keep3 W0.heap.size a3 rest wr u)) (fun z _ => n - (intOf z).toNat)
    case atStart => exact ⟨0, _, Nat.zero_le _, rfl, HS3.out, HT3.out, HK3.out⟩
    case round =>
      obtain ⟨k, u, hk, rfl, HSr, HTr, HKr⟩ := hrel
      by_cases hlt : k < n
      · have hkl : k < rest.length := by rw [HNN.out]; exact hlt
        obtain ⟨g3, rfl, hg3, hgu, hrow⟩ := HKr.out (by omega)
        obtain ⟨c1, c2, c3, c4⟩ := hrow.2 k hkl
        have hck := HCK.out rest[k] (List.getElem_mem hkl)
        obtain ⟨i', hi'⟩ : ∃ i', i = i' + 1 := by
          cases i with
          | zero => rw [HEZ.out rfl] at hkl; cases hkl
          | succ i' => exact ⟨i', rfl⟩
        have hpos : 0 < i := by omega
        have HI' := Lib.hid hi'
        have hfit := HLEN.out i' (by omega) HCK.out (Int.le_refl _) k hkl
        have hstep : (rest.take (k + 1)).flatMap (downL L i') = (rest.take k).flatMap (downL L i') ++ downL L i' rest[k] := by
          rw [List.take_succ_eq_append_getElem hkl, List.flatMap_append]; simp
        have HSTEP := Lib.hid hstep
        have HFIT := Lib.hid hfit
        have HYK := Lib.hid hck
        clear hstep hfit hck hrow hi'
        generalize rest[k] = y at *
        obtain ⟨y1, y2, y3, y4⟩ := y
        have d1 := HSr.out.dbx.cell
        simp only [Nat.zero_add] at c1 c2 c3 c4
        have hdl := HSr.out.dbx.lt
        have HBA := Lib.hid (below_alloc wr (.cells #[.int .i64 y1, .int .i64 y2, .int .i64 y3, .int .i64 y4] 30))
        have HFI : Hid (((P ++ ((⟨m1, m2, m3, m4⟩, i) :: (rest.take k).flatMap (downL L (i - 1)))).length : Int) + area4 ⟨y1, y2, y3, y4⟩ ≤ 1100000) := by
          unfold Hid
          have h1 := HFIT.out
          have h2 := HP.out
          have h3 := HAR.out
          rw [List.length_append, List.length_cons, show i - 1 = i' by rw [HI'.out]; rfl]
          omega
        go_wp2_with fail
        rw [show ((i : Int) - 1) = (i' : Int) by have := HI'.out; omega]
        refine (HIH.out i' HI'.out y1 y2 y3 y4 _ u _ HYK.out HFI.out (HSr.out.below HBA.out)).mono ?_
        rintro e w5 ⟨⟨z5, rfl⟩, u5, hS5, hT5⟩
        have HS5 := Lib.hid hS5
        have HK5 := Lib.hid (HKr.out.next HBA.out hT5)
        have HT5 := Lib.hid ((HTr.out.trans (St.of_below HBA.out)).trans hT5)
        clear hS5 hT5 c1 c2 c3 c4 d1 hdl
        go_wp2_with fail
        go_roundw
        case rel =>
          refine ⟨k + 1, u5, by omega, by go_num, ?_, HT5.out, HK5.out⟩
          have h1 := HS5.out
          rw [show i - 1 = i' by rw [HI'.out]; rfl] at h1 ⊢
          rw [List.append_assoc, List.cons_append, ← HSTEP.out] at h1
          exact h1
        case measure => simp [intOf]; omega
      · obtain rfl : k = n := by omega
        have HT : Hid (rest.take k = rest) := List.take_of_length_le (by rw [HNN.out]; exact Nat.le_refl _)
        go_wp2_with fail
        (try simp only [Exit.inBlock, Exit.then])
        refine bodyPost_end (results_none rfl _ _ _) rfl ?_
        refine ⟨⟨_, rfl⟩, u, ?_, HTr.out⟩
        have h1 := HSr.out
        rw [HT.out] at h1
        rw [HED.out]
        exact h1
theorem down_any (W0 : World) (b off len cap : Nat) (L : List RV) (hW : IsL W0 (some ⟨b, off, none⟩) len L) (hL : ∀ k, k < L.length → (rr4 (ruleAt L k)).ck = true) (hs : isSheet (ruleAt L 0) = true) (hlen : len ≤ 64) : ∀ i, i < len → DownAt W0 (some ⟨b, off, none⟩) len cap L i := by
  intro i
  induction i with
  | zero => intro hi; exact down_step W0 b off len cap L hW hL hs hlen 0 hi (fun k hk => by cases hk)
  | succ i ih => intro hi; exact down_step W0 b off len cap L hW hL hs hlen (i + 1) hi (fun k hk => by injection hk with hk; subst hk; exact ih (by omega))
end Go.Proofs.Ytndijajaddkbhaa.Re
