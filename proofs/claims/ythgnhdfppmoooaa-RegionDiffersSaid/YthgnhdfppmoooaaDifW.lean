/- The contract of the specification's Differing . -/
import Derived.Test.YthgnhdfppmoooaaDifD
namespace Go.Proofs.Ythgnhdfppmoooaa.Re
open Go.RowKit AM
set_option linter.unusedVariables false
set_option linter.unusedSimpArgs false
set_option maxRecDepth 100000 in
set_option maxHeartbeats 12800000 in
theorem sdiff_any (r1 r2 r3 r4 : Int) (aa ab : Option Addr) (la ca lb cb : Nat) (A B : List RV) (w : World) (hA : IsL w aa la A) (hB : IsL w ab lb B) (h64 : la + lb ≤ 64) (ha0 : 0 < la) (hb0 : 0 < lb)
    (ckA : ∀ k, k < A.length → (rr4 (ruleAt A k)).ck = true) (ckBB : ∀ k, k < B.length → (rr4 (ruleAt B k)).ck = true) (hr : (⟨r1, r2, r3, r4⟩ : R4).ck = true) :
    Calls Try.prog 14 #[.agg #[.int .i64 r1, .int .i64 r2, .int .i64 r3, .int .i64 r4], .slice aa la ca, .slice ab lb cb] w fun e w' => e = .returned (.int .i64 (cnt (difF A B) ⟨r1, r2, r3, r4⟩)) ∧ Below w.heap.size w w' := by
  have HLA := Lib.hid hA
  have HLB := Lib.hid hB
  have HNA := Lib.hid hA.1
  have HNB := Lib.hid hB.1
  have HCK := Lib.hid (ck_app ckA ckBB)
  have HR := Lib.hid hr
  have HSUM := Lib.hid (pts_sum (difF A B) (A ++ B) ⟨r1, r2, r3, r4⟩ hr (fun p q p' q' h => difF_same p q p' q' h))
  have HCL := Lib.hid (cnt_le (difF A B) hr)
  have HPIN : Hid (∀ x ∈ ptsL ⟨r1, r2, r3, r4⟩ (A ++ B), (r1 ≤ x.1 ∧ x.1 ≤ r3) ∧ r2 ≤ x.2 ∧ x.2 ≤ r4) := fun x hx => by
    have := has4_iff.1 (pts_in hx); dsimp only at this; exact ⟨⟨this.1, this.2.1⟩, this.2.2⟩
  have HPTN : Hid ((ptsL ⟨r1, r2, r3, r4⟩ (A ++ B)).length ≤ 1048576) := ptsL_max hr
  have hr4 := hr
  unfold R4.ck at hr4
  rw [ckB_iff] at hr4
  dsimp only at hr4
  obtain ⟨⟨p1, p2, p3, p4⟩, ⟨p5, p6, p7, p8⟩, p9, p10⟩ := hr4
  have HLN : Hid ((A ++ B).length = la + lb) := by unfold Hid; rw [List.length_append, HNA.out, HNB.out]
  obtain ⟨AB, hAB⟩ : ∃ AB, AB = A ++ B := ⟨_, rfl⟩
  rw [← hAB] at HSUM HPIN HPTN HCK
  have HAB := Lib.hid hAB
  clear hAB
  obtain ⟨CN, hCN⟩ : ∃ CN, CN = cnt (difF A B) ⟨r1, r2, r3, r4⟩ := ⟨_, rfl⟩
  rw [← hCN] at HSUM HCL ⊢
  clear hA hB ckA ckBB hr hCN
  dsimp only at HSUM
  have HF := Lib.hid (Four.start w r1 r2 r3 r4 23)
  have HB0 := Lib.hid (below_alloc w (.cells #[.int .i64 r1, .int .i64 r2, .int .i64 r3, .int .i64 r4] 23))
  go_enter Try.func14, Try.ntmps14
  go_wp2_with (at_builtin; refine wpList_appG rfl (.tmp 14) (.tmp 15) 24 rfl Try.underlying24 _ 56 infoRule zero7 (by decide) (by decide) cells7_len cells7_one (w.heap.size + 1) _ [] rfl ?own aa la ca A rfl ?isA ?len ?siz ?rest)
  case own =>
    have h := heap_alloc_new (w.alloc (.cells #[.int .i64 r1, .int .i64 r2, .int .i64 r3, .int .i64 r4] 23)) (.cells #[] 44)
    rw [alloc_size] at h
    exact ⟨rfl, .inr ⟨w.heap.size + 1, 0, #[], rfl, Nat.le_refl _, h, Nat.le_refl _, by decide, rfl, rfl⟩⟩
  case isA => exact (HLA.out.later HB0.out).later (below_alloc _ _)
  case len => simp; omega
  case siz => simp
  case rest =>
    intro v1 w1 ho hg hat
    have hs0 := alloc_size w (.cells #[.int .i64 r1, .int .i64 r2, .int .i64 r3, .int .i64 r4] 23)
    generalize w.alloc (.cells #[.int .i64 r1, .int .i64 r2, .int .i64 r3, .int .i64 r4] 23) = W0 at *
    rw [← hs0] at ho hg
    have HB1 := Lib.hid ((below_alloc W0 (.cells #[] 44)).grown hg (by simp) (fun q hq => by simp [Value.ownBlock] at hq; omega))
    have HO1 : Hid (OwnOf 44 cells7 7 W0.heap.size w1 v1 A) := ho
    have hz1 := HB1.out.size
    clear ho hg hat
    go_wp2_with (at_builtin; refine wpList_appG rfl (.tmp 16) (.tmp 17) 24 rfl Try.underlying24 _ 56 infoRule zero7 (by decide) (by decide) cells7_len cells7_one W0.heap.size _ A rfl HO1.out ab lb cb B rfl ?isA ?len ?siz ?rest)
    case isA => exact (HLB.out.later HB0.out).later HB1.out
    case len => rw [HNA.out]; omega
    case siz => exact hz1
    case rest =>
      intro v2 w2 ho hg hat
      have HB2 := Lib.hid (HB1.out.grown hg hz1 (fun q hq => (World.ownsRow.lt HO1.out q hq).1))
      obtain ⟨ka, kc, he, hi⟩ := OwnOf.isOf cells7_len ho
      rw [HLN.out] at he hi
      subst he
      rw [← HAB.out] at hi
      have HL2 := Lib.hid hi
      have HF2 := Lib.hid (HF.out.later HB2.out)
      have HBw := Lib.hid (Below.next HB0.out HB2.out)
      have HLA2 := Lib.hid ((HLA.out.later HB0.out).later HB2.out)
      have HLB2 := Lib.hid ((HLB.out.later HB0.out).later HB2.out)
      clear ho hg hat hi HO1 HB1 HB2 HF HB0 HLA HLB hz1 hs0
      obtain ⟨_, e1, e2, e3, e4⟩ := HF2.out
      go_wp2_with fail
      refine (points_any r1 r2 r3 r4 ka (la + lb) kc AB h64 _ HL2.out HCK.out HR.out).mono ?_
      rintro e w3 ⟨⟨v, rfl, ho⟩, hB3⟩
      obtain ⟨pa, pc, rfl, hpi⟩ := ho.isOf cells2_len
      have HP3 := Lib.hid hpi
      have HF3 := Lib.hid (HF2.out.later hB3)
      have HB3 := Lib.hid (Below.next HBw.out hB3)
      have HLA3 := Lib.hid (HLA2.out.later hB3)
      have HLB3 := Lib.hid (HLB2.out.later hB3)
      clear ho hpi hB3 HBw HF2 HL2 HLA2 HLB2 e1 e2 e3 e4 HCK HR
      generalize ptsL ⟨r1, r2, r3, r4⟩ AB = D at *
      generalize hnn : D.length = n at *
      have HNN := Lib.hid hnn
      clear hnn
      go_wp2_with fail
      go_loopw [9, 10] (fun z i wr => ∃ k : Nat, k ≤ n ∧ i = .int .i64 (k : Int) ∧ z = .int .i64 (ptK (difF A B) D (r3 + 1) (r4 + 1) k) ∧ Hid (Below w3.heap.size w3 wr)) (fun _ i _ => n - (intOf i).toNat)
      case atStart => exact ⟨0, Nat.zero_le _, rfl, by simp [ptK], Below.refl _ _⟩
      case round =>
        obtain ⟨k, hk, rfl, rfl, HB⟩ := hrel
        have hn20 : n ≤ 1048576 := HPTN.out
        by_cases hlt : k < n
        · have hkl : k < D.length := by rw [HNN.out]; exact hlt
          obtain ⟨b, off, rfl, hrow⟩ := HP3.out.2 (by omega)
          have c1 : wr.cell? ⟨b, off + k * 2, none⟩ = some (.int .i64 D[k].1) := (HB.out.cell (p := ⟨b, off + k * 2, none⟩) hrow.1).trans (by have := hrow.2 k hkl 0 _ rfl; rwa [Nat.add_zero] at this)
          have c2 : wr.cell? ⟨b, off + k * 2 + 1, none⟩ = some (.int .i64 D[k].2) := (HB.out.cell (p := ⟨b, off + k * 2 + 1, none⟩) hrow.1).trans (hrow.2 k hkl 1 _ rfl)
          have HLT : Hid (b < wr.heap.size) := Nat.lt_of_lt_of_le hrow.1 HB.out.size
          have HROW := Lib.hid hrow
          have w1c : w3.cell? ⟨b, off + k * 2, none⟩ = some (.int .i64 D[k].1) := by have := hrow.2 k hkl 0 _ rfl; rwa [Nat.add_zero] at this
          have w2c : w3.cell? ⟨b, off + k * 2 + 1, none⟩ = some (.int .i64 D[k].2) := hrow.2 k hkl 1 _ rfl
          have HST := Lib.hid (ptK_succ (difF A B) D (r3 + 1) (r4 + 1) k hkl)
          have hin : ∀ x ∈ D, x.1 < r3 + 1 ∧ x.2 < r4 + 1 := fun x hx => by have := HPIN.out x hx; omega
          have HK1 := Lib.hid (ptK_le (difF A B) D (r3 + 1) (r4 + 1) hin (D.length - k) k (by omega))
          have HK2 := Lib.hid (ptK_le (difF A B) D (r3 + 1) (r4 + 1) hin (D.length - (k + 1)) (k + 1) (by omega))
          have HXY := Lib.hid (HPIN.out D[k] (List.getElem_mem hkl))
          clear hin hrow
          obtain ⟨⟨p, qq⟩, hx⟩ : ∃ x, x = D[k] := ⟨_, rfl⟩
          rw [← hx] at c1 c2 w1c w2c HST HXY
          dsimp only at c1 c2 w1c w2c HST HXY
          have HW1 := Lib.hid w1c
          have HW2 := Lib.hid w2c
          clear w1c w2c
          have C1 := Lib.hid c1
          have C2 := Lib.hid c2
          clear hx c1 c2
          obtain ⟨RA, hRA⟩ : ∃ RA, RA = (ruleAt A (lastI A p qq A.length)).rd := ⟨_, rfl⟩
          obtain ⟨RB, hRB⟩ : ∃ RB, RB = (ruleAt B (lastI B p qq B.length)).rd := ⟨_, rfl⟩
          have HDF : Hid (difF A B p qq = !(RA == RB)) := by unfold Hid difF; rw [hRA, hRB]
          have HRA : Hid (∀ W, Below wr.heap.size wr W → Calls Try.prog 16 #[.agg #[.int .i64 p, .int .i64 qq], .slice aa la ca] W fun e w' => e = .returned (.int .u64 (RA.toNat : Int)) ∧ Below W.heap.size W w') := fun W hW => by rw [hRA]; exact readers_any p qq aa la ca A (by omega) ha0 W ((HLA3.out.later HB.out).later hW)
          have HRB : Hid (∀ W, Below wr.heap.size wr W → Calls Try.prog 16 #[.agg #[.int .i64 p, .int .i64 qq], .slice ab lb cb] W fun e w' => e = .returned (.int .u64 (RB.toNat : Int)) ∧ Below W.heap.size W w') := fun W hW => by rw [hRB]; exact readers_any p qq ab lb cb B (by omega) hb0 W ((HLB3.out.later HB.out).later hW)
          clear hRA hRB
          generalize ptK (difF A B) D (r3 + 1) (r4 + 1) k = Z0 at *
          have hmx : Try.prog.follows .mixedOrders = true := by kernel_rfl
          go_wp2_with fail
          refine wp_region_seqi (fun X => Below wr.heap.size wr X) (fun X X2 hB h => Below.next h hB) (by kernel_rfl) (by kernel_rfl) (by kernel_rfl) (Below.refl _ wr).drew ?_
          simp only [putsL, Act.put, List.setIfInBounds_toArray, List.set_cons_zero, List.set_cons_succ, Nat.zero_add, Nat.reduceAdd]
          repeat (first
            | (refine seqi_call (f := 16) (fun v _ => v = .int .u64 (RA.toNat : Int)) (stable_val _) (fun vs => #[.agg #[.int .i64 p, .int .i64 qq], .slice aa la ca]) (fun vs W hD => ?_) (fun vs W hS hD => ?_) (fun vs W hS hD => ?_) ?_
               · (first | rfl | ((try simp [DepA, isB, rsAt] at hD); simp [Region.wanted, yielded, hD]; done))
               · (clear hS; (try simp [DepA, isB, rsAt] at hD); (try simp only [hD]); go_simp; done)
               · (exact (HRA.out W hS).mono fun e W' ⟨he, hB⟩ => ⟨⟨_, he, rfl⟩, hB⟩)
               simp only [List.nil_append, List.cons_append])
            | (refine seqi_call (f := 16) (fun v _ => v = .int .u64 (RB.toNat : Int)) (stable_val _) (fun vs => #[.agg #[.int .i64 p, .int .i64 qq], .slice ab lb cb]) (fun vs W hD => ?_) (fun vs W hS hD => ?_) (fun vs W hS hD => ?_) ?_
               · (first | rfl | ((try simp [DepA, isB, rsAt] at hD); simp [Region.wanted, yielded, hD]; done))
               · (clear hS; (try simp [DepA, isB, rsAt] at hD); (try simp only [hD]); go_simp; done)
               · (exact (HRB.out W hS).mono fun e W' ⟨he, hB⟩ => ⟨⟨_, he, rfl⟩, hB⟩)
               simp only [List.nil_append, List.cons_append])
            | (refine seqi_run ?_ (fun vs W hD => ?_) (fun vs W hS hD => ?_) ?_
               rotate_left
               · (first | rfl | ((try simp [DepA, isB, rsAt] at hD); simp [Region.wanted, yielded, hD]; done))
               (have d1 := (hS.cell (p := ⟨b, off + k * 2, none⟩) HLT.out).trans C1.out; have d2 := (hS.cell (p := ⟨b, off + k * 2 + 1, none⟩) HLT.out).trans C2.out; (try simp [DepA, isB, rsAt] at hD); (try simp only [hD]); (first | (go_simp; done) | (go_simp; rfl)))
               simp only [List.nil_append, List.cons_append]))
          refine seqi_end fun vs W hS hv => ?_
          simp only [AllF, Nat.zero_add, Nat.reduceAdd] at hv
          obtain ⟨h0, h1, h2, h3, h4, h5, h6, h7, h8, h9, h10, h11, h12, _⟩ := hv
          simp only [h0, h1, h2, h3, h4, h5, h6, h7, h8, h9, h10, h11, h12]
          clear h0 h1 h2 h3 h4 h5 h6 h7 h8 h9 h10 h11 h12
          have HBW := Lib.hid (Below.next HB.out hS)
          have C1 := Lib.hid ((hS.cell (p := ⟨b, off + k * 2, none⟩) HLT.out).trans C1.out)
          have C2 := Lib.hid ((hS.cell (p := ⟨b, off + k * 2 + 1, none⟩) HLT.out).trans C2.out)
          have HLT : Hid (b < W.heap.size) := Nat.lt_of_lt_of_le HLT.out hS.size
          clear hS HB HRA HRB
          generalize W = w4 at *
          by_cases hE : RA = RB
          · have HZ1 : Hid (ptK (difF A B) D (r3 + 1) (r4 + 1) (k + 1) = Z0) := by unfold Hid; rw [HST.out, HDF.out, hE]; simp
            subst hE
            go_wp2_with fail
            go_roundw
            case rel => exact ⟨k + 1, by omega, by go_num, by rw [HZ1.out], HBW.out⟩
            case measure => simp [intOf]; omega
          · have hne : ((RA.toNat : Int) == (RB.toNat : Int)) = false := by
              rw [beq_eq_false_iff_ne]; intro e; exact hE (BitVec.eq_of_toNat_eq (by omega))
            have HDT : Hid (difF A B p qq = true) := by unfold Hid; rw [HDF.out, Bool.not_eq_true', beq_eq_false_iff_ne]; exact hE
            clear hE
            obtain ⟨_, e1, e2, e3, e4⟩ := HF3.out.later HBW.out
            simp only [hne]
            go_wp2_with fail
            go_quiet (fail)
            clear e1 e2 e3 e4
            go_wp2_with fail
            go_loopw [11, 12, 13] (fun x y i wr => ∃ j : Nat, j ≤ n ∧ i = .int .i64 (j : Int) ∧ x = .int .i64 (nxt ((D.take j).map (·.1)) (r3 + 1) p) ∧ y = .int .i64 (nxt ((D.take j).map (·.2)) (r4 + 1) qq) ∧ Hid (Below w3.heap.size w3 wr)) (fun _ _ i _ => n - (intOf i).toNat)
            case atStart => exact ⟨0, Nat.zero_le _, rfl, rfl, rfl, by first | exact HBW.out | exact drewN_below HBW.out _⟩
            case round =>
              obtain ⟨j, hj, rfl, rfl, rfl, HB5⟩ := hrel
              have q1 := (HB5.out.cell (p := ⟨b, off + k * 2, none⟩) HROW.out.1).trans HW1.out
              have q2 := (HB5.out.cell (p := ⟨b, off + k * 2 + 1, none⟩) HROW.out.1).trans HW2.out
              have hbl : b < wr.heap.size := Nat.lt_of_lt_of_le HROW.out.1 HB5.out.size
              by_cases hlj : j < n
              · have hjl : j < D.length := by rw [HNN.out]; exact hlj
                have g1 : wr.cell? ⟨b, off + j * 2, none⟩ = some (.int .i64 D[j].1) := (HB5.out.cell (p := ⟨b, off + j * 2, none⟩) HROW.out.1).trans (by have := HROW.out.2 j hjl 0 _ rfl; rwa [Nat.add_zero] at this)
                have g2 : wr.cell? ⟨b, off + j * 2 + 1, none⟩ = some (.int .i64 D[j].2) := (HB5.out.cell (p := ⟨b, off + j * 2 + 1, none⟩) HROW.out.1).trans (HROW.out.2 j hjl 1 _ rfl)
                have HT1 : Hid (nxt ((D.take (j + 1)).map (·.1)) (r3 + 1) p = if p < D[j].1 then min (nxt ((D.take j).map (·.1)) (r3 + 1) p) D[j].1 else nxt ((D.take j).map (·.1)) (r3 + 1) p) := by unfold Hid; rw [List.take_succ_eq_append_getElem hjl, List.map_append]; exact nxt_app _ _ _ _
                have HT2 : Hid (nxt ((D.take (j + 1)).map (·.2)) (r4 + 1) qq = if qq < D[j].2 then min (nxt ((D.take j).map (·.2)) (r4 + 1) qq) D[j].2 else nxt ((D.take j).map (·.2)) (r4 + 1) qq) := by unfold Hid; rw [List.take_succ_eq_append_getElem hjl, List.map_append]; exact nxt_app _ _ _ _
                generalize nxt ((D.take j).map (·.1)) (r3 + 1) p = X1 at *
                generalize nxt ((D.take j).map (·.2)) (r4 + 1) qq = X2 at *
                generalize D[j].1 = j1 at *
                generalize D[j].2 = j2 at *
                by_cases hp : p < j1
                · by_cases hq : qq < j2
                  · skip
                    go_wp2_with fail
                    go_quiet (fail)
                    go_wp2_with fail
                    go_quiet (fail)
                    go_wp2_with fail
                    go_roundw
                    case rel => exact ⟨j + 1, by omega, by go_num, by rw [HT1.out, if_pos hp], by rw [HT2.out, if_pos hq], by first | exact HB5.out | exact drewN_below HB5.out _⟩
                    case measure => simp [intOf]; omega
                  · skip
                    go_wp2_with fail
                    go_quiet (fail)
                    go_wp2_with fail
                    go_quiet (fail)
                    go_wp2_with fail
                    go_roundw
                    case rel => exact ⟨j + 1, by omega, by go_num, by rw [HT1.out, if_pos hp], by rw [HT2.out, if_neg (by omega)], by first | exact HB5.out | exact drewN_below HB5.out _⟩
                    case measure => simp [intOf]; omega
                · by_cases hq : qq < j2
                  · skip
                    go_wp2_with fail
                    go_quiet (fail)
                    go_wp2_with fail
                    go_quiet (fail)
                    go_wp2_with fail
                    go_roundw
                    case rel => exact ⟨j + 1, by omega, by go_num, by rw [HT1.out, if_neg (by omega)], by rw [HT2.out, if_pos hq], by first | exact HB5.out | exact drewN_below HB5.out _⟩
                    case measure => simp [intOf]; omega
                  · skip
                    go_wp2_with fail
                    go_quiet (fail)
                    go_wp2_with fail
                    go_quiet (fail)
                    go_wp2_with fail
                    go_roundw
                    case rel => exact ⟨j + 1, by omega, by go_num, by rw [HT1.out, if_neg (by omega)], by rw [HT2.out, if_neg (by omega)], by first | exact HB5.out | exact drewN_below HB5.out _⟩
                    case measure => simp [intOf]; omega
              · have htk : D.take j = D := List.take_of_length_le (by rw [HNN.out]; omega)
                rw [htk]
                have y1 := nxt_gt (l := D.map (·.1)) (show p < r3 + 1 by have := HXY.out; omega)
                have y2 := nxt_gt (l := D.map (·.2)) (show qq < r4 + 1 by have := HXY.out; omega)
                have y3 := nxt_le (D.map (·.1)) (r3 + 1) p
                have y4 := nxt_le (D.map (·.2)) (r4 + 1) qq
                have hst := HST.out
                rw [HDT.out, if_pos rfl] at hst
                have hk1 := HK1.out
                have hk2 := HK2.out
                rw [HSUM.out] at hk1 hk2
                have hcl := HCL.out
                have hxy := HXY.out
                generalize nxt (D.map (·.1)) (r3 + 1) p = X1 at *
                generalize nxt (D.map (·.2)) (r4 + 1) qq = X2 at *
                obtain ⟨m1, m2⟩ := mul_bound (x := X1 - p) (y := X2 - qq) (by omega) (by omega) (by omega) (by omega)
                have ew1 : IntKind.i64.wrap ((X1 - p) * (X2 - qq)) = (X1 - p) * (X2 - qq) := IntWalk.i64_in _ (by omega)
                have z0 : 0 ≤ Z0 := hk1.1
                have z1 : Z0 ≤ 1048576 := by omega
                have ew2 : IntKind.i64.wrap (Z0 + (X1 - p) * (X2 - qq)) = Z0 + (X1 - p) * (X2 - qq) := IntWalk.i64_in _ (by omega)
                have ew3 : IntKind.i64.wrap (X1 - p) = X1 - p := IntWalk.i64_in _ (by omega)
                have ew4 : IntKind.i64.wrap (X2 - qq) = X2 - qq := IntWalk.i64_in _ (by omega)
                have HST2 := Lib.hid hst
                clear hst hk1 hk2 hcl hxy y1 y2 y3 y4
                go_wp2_with fail
                go_quiet (fail)
                go_wp2_with fail
                exact ⟨⟨k + 1, by omega, by go_num, by rw [HST2.out], by first | exact HB5.out | exact drewN_below HB5.out _⟩, by simp [intOf]; omega⟩
        · have hkn : k = D.length := by rw [HNN.out]; omega
          have HZ : Hid (ptK (difF A B) D (r3 + 1) (r4 + 1) k = CN) := by unfold Hid; rw [hkn, ptK_all]; exact HSUM.out
          have HBE := Lib.hid (Below.next HB3.out HB.out)
          rw [HZ.out]
          clear hkn
          go_wp2_with fail
          go_ret
          exact ⟨rfl, HBE.out⟩
end Go.Proofs.Ythgnhdfppmoooaa.Re
