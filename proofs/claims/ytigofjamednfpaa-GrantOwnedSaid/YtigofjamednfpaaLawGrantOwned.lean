/- The walk of the law. -/
import Derived.Test.YtigofjamednfpaaForC
import Derived.Test.YtigofjamednfpaaClosed
import Derived.Test.YtigofjamednfpaaCameG
import Derived.Deep.CutRange
namespace Go.Proofs.Ytigofjamednfpaa.Re
open Go.RowKit AM
attribute [local simp] DepA isB rsAt
set_option maxRecDepth 100000 in
set_option maxHeartbeats 6400000 in
theorem grantOwned_any (fn : Nat) (hfn : fn < 256) (r1 r2 r3 r4 : Int) (a : Option Addr) (len cap : Nat) (L : List RV) (a' : Option Addr) (len' cap' : Nat) (G : List GV) (us : Nat) (hus : us < 256) (w : World) (hL : IsL w a len L) (hG : IsG w a' len' G) :
    Calls Try.prog 8 #[.int .u8 (fn : Int), .agg #[.int .i64 r1, .int .i64 r2, .int .i64 r3, .int .i64 r4], .slice a len cap, .slice a' len' cap', .int .u8 (us : Int)] w fun e w' => e = .returned (.bool true) ∧ Below w.heap.size w w' := by
  have HL := Lib.hid hL
  have HLL := Lib.hid hL.1
  have HG := Lib.hid hG
  have HGL := Lib.hid hG.1
  clear hL hG
  have HF := Lib.hid (Four.start w r1 r2 r3 r4 23)
  have HB := Lib.hid (below_alloc w (.cells #[.int .i64 r1, .int .i64 r2, .int .i64 r3, .int .i64 r4] 23))
  go_enter Try.func8, Try.ntmps8
  go_wp2_with fail
  generalize w.alloc (.cells #[.int .i64 r1, .int .i64 r2, .int .i64 r3, .int .i64 r4] 23) = w0 at *
  refine (good21_any a len cap L a' len' cap' G _ (HL.out.later HB.out) (HG.out.later HB.out)).mono ?_
  rintro e w1 ⟨rfl, hB1⟩
  have HF1 := Lib.hid (HF.out.later hB1)
  have HB1 := Lib.hid (Below.next HB.out hB1)
  clear hB1 HF HB
  cases hok : okA21 L G
  · clear hok
    go_wp2_with fail
    go_ret
    exact ⟨rfl, HB1.out⟩
  · obtain ⟨hrc, hgc, hl20, hl30⟩ := okA21_iff.1 hok
    have hl : len ≤ 20 := by have := HLL.out; omega
    have hl' : len' ≤ 30 := by have := HGL.out; omega
    have HRC := Lib.hid hrc
    have HGC := Lib.hid hgc
    clear hok hrc hgc hl20 hl30
    obtain ⟨_, e1, e2, e3, e4⟩ := HF1.out
    go_wp2_with fail
    refine (srange_any r1 r2 r3 r4 _).mono ?_
    rintro e w2 ⟨rfl, hB2⟩
    have HF2 := Lib.hid (HF1.out.later hB2)
    have HB2 := Lib.hid (Below.next HB1.out hB2)
    clear hB2 HF1 HB1 e1 e2 e3 e4
    cases hck : ckB r1 r2 r3 r4
    · clear hck
      go_wp2_with fail
      go_ret
      exact ⟨rfl, HB2.out⟩
    · obtain ⟨m, hm⟩ : ∃ m : Nat, m = fn % 5 := ⟨_, rfl⟩
      have hm5 : m < 5 := by omega
      have HM : Hid ((fn : Int).tmod 5 = (m : Int)) := by unfold Hid; rw [Int.tmod_eq_emod_of_nonneg (by omega)]; omega
      obtain ⟨u, hu⟩ : ∃ u : Nat, u = us % 64 := ⟨_, rfl⟩
      have hu64 : u < 64 := by omega
      have HU : Hid ((us : Int).tmod 64 = (u : Int)) := by unfold Hid; rw [Int.tmod_eq_emod_of_nonneg (by omega)]; omega
      clear hm hu
      have HCK := Lib.hid hck
      have hgE : gcE ⟨r1, r2, r3, r4⟩ L = 0 := gcE_zero.2 ⟨hck, HRC.out⟩
      have hfE : forE (46 + m) ⟨r1, r2, r3, r4⟩ L G = 0 := forE_ok hm5 hgE HGC.out
      have HFE := Lib.hid hfE
      have HE : Hid (overV ⟨r1, r2, r3, r4⟩ L = .tuple #[rights3 (ovr RV.rd ⟨r1, r2, r3, r4⟩ L) (ovr RV.wr ⟨r1, r2, r3, r4⟩ L) (ovr RV.ow ⟨r1, r2, r3, r4⟩ L), .int .i64 0]) := by
        unfold Hid overV ovV; rw [hgE, if_pos rfl, if_pos rfl, if_pos rfl]
      have HST : Hid (∀ k (h : k < G.length), PG m ⟨r1, r2, r3, r4⟩ L G[k] = (decide (G[k].c1 = r1 ∧ G[k].r1 = r2 ∧ G[k].c2 = r3 ∧ G[k].r2 = r4) && (!G[k].rev && (G[k].fns.getLsbD m && (ovr RV.ow ⟨r1, r2, r3, r4⟩ L).getLsbD G[k].by_.toNat)))) := fun k h =>
        PG_eq hm5 HRC.out ((gck_good HGC.out).2 k h)
      have HBY : Hid (∀ k (h : k < G.length), 0 ≤ G[k].by_ ∧ G[k].by_ < 64) := fun k h => (okG_parts ((gck_good HGC.out).2 k h)).2
      have HFL : Hid (forL (46 + m) ⟨r1, r2, r3, r4⟩ L G = liveL (PG m ⟨r1, r2, r3, r4⟩ L) G G.length) := by unfold Hid forL; rw [if_pos hfE]; rfl
      clear hck hgE hfE HRC HGC
      obtain ⟨_, e1, e2, e3, e4⟩ := HF2.out
      have HT1 := HM.out
      have HT2 := HU.out
      go_wp2_with fail
      clear HT1 HT2
      refine (over_any r1 r2 r3 r4 a len cap L (by omega) _ (HL.out.later HB2.out)).mono ?_
      rw [HE.out]
      generalize ovr RV.rd ⟨r1, r2, r3, r4⟩ L = A1 at *
      generalize ovr RV.wr ⟨r1, r2, r3, r4⟩ L = A2 at *
      generalize ovr RV.ow ⟨r1, r2, r3, r4⟩ L = A3 at *
      rintro e w3 ⟨rfl, hB3⟩
      have HF3 := Lib.hid (HF2.out.later hB3)
      have HB3 := Lib.hid (Below.next HB2.out hB3)
      clear hB3 HF2 HB2 HE e1 e2 e3 e4
      have HV4 := Lib.hid (Bl3.start w3 (A1.toNat : Int) (A2.toNat : Int) (A3.toNat : Int))
      have HF4 := Lib.hid (HF3.out.later (below_alloc w3 (.cells #[.int .u64 (A1.toNat : Int), .int .u64 (A2.toNat : Int), .int .u64 (A3.toNat : Int)] 28)))
      have HB4 := Lib.hid (Below.next HB3.out (below_alloc w3 (.cells #[.int .u64 (A1.toNat : Int), .int .u64 (A2.toNat : Int), .int .u64 (A3.toNat : Int)] 28)))
      have hs3 := HB3.out.size
      have hwf : w.heap.size < w3.heap.size := HF3.out.1
      clear HF3 HB3
      unfold rights3
      go_wp2_with fail
      generalize w3.alloc (.cells #[.int .u64 (A1.toNat : Int), .int .u64 (A2.toNat : Int), .int .u64 (A3.toNat : Int)] 28) = w4 at *
      refine wp_region_seqi (fun X => Below w4.heap.size w4 X) (fun W W2 hB h => Below.next h hB) (by kernel_rfl) (by kernel_rfl) (by kernel_rfl) (Below.refl _ _).drew ?_
      simp only [putsL, Act.put, List.setIfInBounds_toArray, List.set_cons_zero, List.set_cons_succ, Nat.zero_add, Nat.reduceAdd]
      refine seqi_run ?_ (fun vs W hD => (by first | rfl | (simp at hD; simp [Region.wanted, yielded, hD]))) (fun vs W hS hD => ?_) ?_
      rotate_left
      · obtain _ := hS; (try simp at hD); (try simp only [hD]); (first | (go_simp; done) | (go_simp; rfl))
      simp only [List.nil_append]
      refine seqi_run ?_ (fun vs W hD => (by first | rfl | (simp at hD; simp [Region.wanted, yielded, hD]))) (fun vs W hS hD => ?_) ?_
      rotate_left
      · obtain ⟨_, c1, c2, c3, c4⟩ := HF4.out.later hS; obtain _ := hS; (try simp at hD); (try simp only [hD]); (first | (go_simp; done) | (go_simp; rfl))
      simp only [List.nil_append, List.cons_append]
      refine seqi_run ?_ (fun vs W hD => (by first | rfl | (simp at hD; simp [Region.wanted, yielded, hD]))) (fun vs W hS hD => ?_) ?_
      rotate_left
      · obtain _ := hS; (try simp at hD); (try simp only [hD]); (first | (go_simp; done) | (go_simp; rfl))
      simp only [List.nil_append, List.cons_append]
      refine seqi_call (f := 11) (ListOf cells7 7 L) (listOf_stable _ _ _) (fun vs => #[.slice a len cap]) (fun vs W hD => (by first | rfl | (simp at hD; simp [Region.wanted, yielded, hD]))) (fun vs W hS hD => ?_) (fun vs W hS hD => ?_) ?_
      · obtain _ := hS; (try simp at hD); (try simp only [hD]); go_simp; done
      · exact (copyrules_any a len cap L (by omega) W ((HL.out.later HB4.out).later hS)).mono fun e W' ⟨⟨v, he, ho⟩, hB⟩ => ⟨⟨_, he, OwnOf.isOf cells7_len ho⟩, hB⟩
      simp only [List.nil_append, List.cons_append]
      refine seqi_run ?_ (fun vs W hD => (by first | rfl | (simp at hD; simp [Region.wanted, yielded, hD]))) (fun vs W hS hD => ?_) ?_
      rotate_left
      · obtain _ := hS; (try simp at hD); (try simp only [hD]); (first | (go_simp; done) | (go_simp; rfl))
      simp only [List.nil_append, List.cons_append]
      refine seqi_call (f := 20) (ListOf cells8 8 G) (listOf_stable _ _ _) (fun vs => #[.slice a' len' cap']) (fun vs W hD => (by first | rfl | (simp at hD; simp [Region.wanted, yielded, hD]))) (fun vs W hS hD => ?_) (fun vs W hS hD => ?_) ?_
      · obtain _ := hS; (try simp at hD); (try simp only [hD]); go_simp; done
      · exact (copygrants_any a' len' cap' G (by omega) W ((HG.out.later HB4.out).later hS)).mono fun e W' ⟨⟨v, he, ho⟩, hB⟩ => ⟨⟨_, he, OwnOf.isOf cells8_len ho⟩, hB⟩
      simp only [List.nil_append, List.cons_append]
      refine seqi_call (f := 29) (ForF (toW (forL (46 + m) ⟨r1, r2, r3, r4⟩ L G)) (byL (forL (46 + m) ⟨r1, r2, r3, r4⟩ L G))) (forF_stable _ _) (fun vs => #[.int .u8 ((46 + m : Nat) : Int), .agg #[.int .i64 r1, .int .i64 r2, .int .i64 r3, .int .i64 r4], vs 3, vs 5]) (fun vs W hD => (by first | rfl | (simp at hD; simp [Region.wanted, yielded, hD]))) (fun vs W hS hD => ?_) (fun vs W hS hD => ?_) ?_
      · obtain _ := hS; (try simp at hD); (try simp only [hD]); go_simp; done
      · simp at hD; obtain ⟨_, _, ⟨x3, y3, e3, i3⟩, x5, y5, e5, i5⟩ := hD; rw [e3, e5]; exact (for_any (46 + m) (by omega) r1 r2 r3 r4 x3 _ y3 L x5 _ y5 G W i3 i5 HFE.out).mono fun e W' ⟨⟨v, he, ho⟩, hB⟩ => (by obtain ⟨x6, y6, rfl, i6⟩ := OwnOf.isOf cells1_len ho; exact ⟨⟨_, he, x6, y6, rfl, i6⟩, hB⟩)
      simp only [List.nil_append, List.cons_append]
      refine seqi_dep (ForF (toW (forL (46 + m) ⟨r1, r2, r3, r4⟩ L G)) (byL (forL (46 + m) ⟨r1, r2, r3, r4⟩ L G))) (forF_stable _ _) (fun vs W hD => (by first | rfl | (simp at hD; simp [Region.wanted, yielded, hD]))) (fun vs W hS hD => ?_) ?_
      · simp at hD; refine ⟨vs 6, ?_, ?_⟩; (· (go_simp; done)); (first | exact hD | (repeat (first | exact hD.1 | replace hD := hD.2)); done)
      simp only [List.nil_append, List.cons_append]
      refine seqi_run (.int .u64 ((toW (forL (46 + m) ⟨r1, r2, r3, r4⟩ L G)).toNat : Int)) (fun vs W hD => (by first | rfl | (simp at hD; simp [Region.wanted, yielded, hD]))) (fun vs W hS hD => ?_) ?_
      · simp at hD; obtain ⟨x6, y6, e6, i6⟩ := hD; go_simp; done
      simp only [List.nil_append, List.cons_append]
      refine seqi_dep (ListOf cells1 1 (byL (forL (46 + m) ⟨r1, r2, r3, r4⟩ L G))) (listOf_stable _ _ _) (fun vs W hD => (by first | rfl | (simp at hD; simp [Region.wanted, yielded, hD]))) (fun vs W hS hD => ?_) ?_
      · simp at hD; obtain ⟨x6, y6, e6, i6⟩ := hD; refine ⟨_, ?_, x6, y6, rfl, i6⟩; go_simp; done
      simp only [List.nil_append, List.cons_append]
      refine seqi_run (.int .i64 0) (fun vs W hD => (by first | rfl | (simp at hD; simp [Region.wanted, yielded, hD]))) (fun vs W hS hD => ?_) ?_
      · simp at hD; obtain ⟨x6, y6, e6, i6⟩ := hD; go_simp; done
      simp only [List.nil_append, List.cons_append]
      refine seqi_run ?_ (fun vs W hD => (by first | rfl | (simp at hD; simp [Region.wanted, yielded, hD]))) (fun vs W hS hD => ?_) ?_
      rotate_left
      · obtain _ := hS; (try simp at hD); (try simp only [hD]); (first | (go_simp; done) | (go_simp; rfl))
      simp only [List.nil_append, List.cons_append]
      refine seqi_dep (ListOf cells1 1 (byL (forL (46 + m) ⟨r1, r2, r3, r4⟩ L G))) (listOf_stable _ _ _) (fun vs W hD => (by first | rfl | (simp at hD; simp [Region.wanted, yielded, hD]))) (fun vs W hS hD => ?_) ?_
      · simp at hD; refine ⟨vs 9, ?_, ?_⟩; (· (go_simp; done)); (first | exact hD | (repeat (first | exact hD.1 | replace hD := hD.2)); done)
      simp only [List.nil_append, List.cons_append]
      refine seqi_run ?_ (fun vs W hD => (by first | rfl | (simp at hD; simp [Region.wanted, yielded, hD]))) (fun vs W hS hD => ?_) ?_
      rotate_left
      · obtain _ := hS; (try simp at hD); (try simp only [hD]); (first | (go_simp; done) | (go_simp; rfl))
      simp only [List.nil_append, List.cons_append]
      refine seqi_end fun vs W hS hv => ?_
      simp only [AllF, Nat.zero_add, Nat.reduceAdd] at hv
      obtain ⟨h0, h1, h2, h3, h4, h5, h6, h7, h8, h9, h10, h11, h12, h13, _⟩ := hv
      have HB5 := Lib.hid (Below.next HB4.out hS)
      have HF5 := Lib.hid (HF4.out.later hS)
      have HV5 := Lib.hid (HV4.out.later hS)
      obtain ⟨x9, y9, e9, i9⟩ := h9
      obtain ⟨x12, y12, e12, i12⟩ := h12
      have HI := Lib.hid i12
      clear hS h3 h5 h6 h7 i9 i12 HB4 HF4 HV4
      simp only [h0, h1, h2, h4, h8, e9, h10, h11, e12, h13]
      clear h0 h1 h2 h4 h8 e9 h10 h11 e12 h13
      rw [HFL.out] at HI ⊢
      have HTW := Lib.hid (toW_bit (liveL (PG m ⟨r1, r2, r3, r4⟩ L) G G.length) u)
      have HBL := Lib.hid (byL_len (liveL (PG m ⟨r1, r2, r3, r4⟩ L) G G.length))
      have HLL2 := Lib.hid (liveL_len (PG m ⟨r1, r2, r3, r4⟩ L) G)
      have HT := Lib.hid (liveL_t (PG m ⟨r1, r2, r3, r4⟩ L) G)
      have HFS := Lib.hid (liveL_f (PG m ⟨r1, r2, r3, r4⟩ L) G)
      clear HFL HFE
      generalize PG m ⟨r1, r2, r3, r4⟩ L = PP at *
      have hws := HB5.out.size
      generalize toW (liveL PP G G.length) = TW at *
      go_wp2_with fail
      go_loopw [17, 18, 19] (fun z v i wr => ∃ (k : Nat) (zb : Bool), k ≤ len' ∧ i = .int .i64 (k : Int) ∧ z = .bool zb ∧ Hid (zb = (liveL PP G k).any fun x => x.2.tos.getLsbD u) ∧ Hid (OwnN W.heap.size wr v (byL (liveL PP G k))) ∧ Below W.heap.size W wr) (fun _ _ i _ => len' - (intOf i).toNat)
      case atStart => exact ⟨0, false, Nat.zero_le _, rfl, rfl, rfl, OwnOf.nil _ _ _ _ _, Below.refl _ _⟩
      case round =>
        obtain ⟨k, zb, hk, rfl, rfl, HZ, HOr, hBr⟩ := hrel
        have HBr := Lib.hid hBr
        clear hBr
        by_cases hlt : k < len'
        · have hkG : k < G.length := by rw [HGL.out]; exact hlt
          obtain ⟨b, off, rfl, hrow⟩ := (HG.out.later (Below.next HB5.out HBr.out)).2 (by omega)
          have hbl := hrow.1
          have s := RowOf.eight hrow k hkG
          have HTT := Lib.hid (HT.out k hkG)
          have HTF := Lib.hid (HFS.out k hkG)
          have HSG := Lib.hid (HST.out k hkG)
          obtain ⟨hy1, hy2⟩ := HBY.out k hkG
          clear hrow
          have HBX := Lib.hid (Box8.start wr G[k] 62)
          have HBA := Lib.hid (below_alloc wr (.cells (cells8 G[k]).toArray 62))
          generalize G[k] = g at *
          obtain ⟨g1, g2, g3, g4, g5, g6, g7, g8⟩ := g
          obtain ⟨c1, c2, c3, c4, c5, c6, c7, c8⟩ := s
          unfold cells8 at HBX HBA
          dsimp only at *
          obtain ⟨q, hq⟩ : ∃ q : Nat, g7 = (q : Int) := ⟨g7.toNat, by omega⟩
          subst hq
          have hq64 : q < 64 := by omega
          rw [Int.toNat_natCast] at HSG
          have hF := HF5.out.later HBr.out
          obtain ⟨hwl, e1, e2, e3, e4⟩ := hF
          obtain ⟨v1, v2, v3, f1, f2, f3⟩ := (HV5.out.later HBr.out).cells
          have hvl := (HV5.out.later HBr.out).lt
          have HO1 := Lib.hid (HOr.out.alloc (.cells #[.int .i64 g1, .int .i64 g2, .int .i64 g3, .int .i64 g4, .int .u8 (g5.toNat : Int), .int .u64 (g6.toNat : Int), .int .i64 (q : Int), .bool g8] 62))
          have HB1 := Lib.hid (HBr.out.alloc HBr.out.size (.cells #[.int .i64 g1, .int .i64 g2, .int .i64 g3, .int .i64 g4, .int .u8 (g5.toNat : Int), .int .u64 (g6.toNat : Int), .int .i64 (q : Int), .bool g8] 62))
          by_cases h : g1 = r1 ∧ g2 = r2 ∧ g3 = r3 ∧ g4 = r4
          · have HD : Hid (decide (g1 = r1 ∧ g2 = r2 ∧ g3 = r3 ∧ g4 = r4) = true) := decide_eq_true h
            obtain ⟨rfl, rfl, rfl, rfl⟩ := h
            rw [HD.out, Bool.true_and] at HSG
            clear HD
            cases g8
            · have ht5 := tmod_bitn g5 m
              cases hb5 : g5.getLsbD m
              · rw [hb5] at ht5 HSG
                have HPF := Lib.hid (HTF.out HSG.out)
                simp only [Bool.false_eq_true, if_false] at ht5
                clear hb5
                go_wp2_with fail
                exact ⟨⟨k + 1, zb, by omega, by go_num, rfl, by rw [HPF.out]; exact HZ.out, by rw [HPF.out]; exact HO1.out, HB1.out⟩, by simp [intOf]; omega⟩
              · rw [hb5] at ht5 HSG
                simp only [if_true] at ht5
                have ht3 := tmod_bitn A3 q
                cases hb3 : A3.getLsbD q
                · rw [hb3] at ht3 HSG
                  have HPF := Lib.hid (HTF.out HSG.out)
                  simp only [Bool.false_eq_true, if_false] at ht3
                  clear hb5 hb3
                  go_wp2_with fail
                  exact ⟨⟨k + 1, zb, by omega, by go_num, rfl, by rw [HPF.out]; exact HZ.out, by rw [HPF.out]; exact HO1.out, HB1.out⟩, by simp [intOf]; omega⟩
                · rw [hb3] at ht3 HSG
                  have HPF := Lib.hid (HTT.out HSG.out)
                  simp only [if_true] at ht3
                  have ht6 := tmod_bitn g6 u
                  have HLK := Lib.hid (HLL2.out k)
                  have HNB := Lib.hid (byL_len (liveL PP G k))
                  have HBS := Lib.hid (byL_snoc (liveL PP G k) (k, ⟨g1, g2, g3, g4, g5, g6, (q : Int), false⟩))
                  have HLT := Lib.hid (World.ownsRow.lt HOr.out)
                  clear hb5 hb3
                  have hbs := HBr.out.size
                  have HO2 := Lib.hid (HO1.out.alloc (.cells #[.int .i64 (k : Int)] 3))
                  have HI2 := Lib.hid (isOf_new (c := cells1) (n := 1) (wr.alloc (.cells #[.int .i64 g1, .int .i64 g2, .int .i64 g3, .int .i64 g4, .int .u8 (g5.toNat : Int), .int .u64 (g6.toNat : Int), .int .i64 (q : Int), .bool false] 62)) #[.int .i64 (k : Int)] 3 (k : Int) rfl)
                  rw [World.size_alloc] at HI2
                  have HBX2 := Lib.hid (HBX.out.later (below_alloc (wr.alloc (.cells #[.int .i64 g1, .int .i64 g2, .int .i64 g3, .int .i64 g4, .int .u8 (g5.toNat : Int), .int .u64 (g6.toNat : Int), .int .i64 (q : Int), .bool false] 62)) (.cells #[.int .i64 (k : Int)] 3)))
                  have HB2 := Lib.hid (HB1.out.alloc HB1.out.size (.cells #[.int .i64 (k : Int)] 3))
                  cases hb6 : g6.getLsbD u
                  · skip
                    rw [hb6] at ht6
                    simp only [Bool.false_eq_true, if_false] at ht6
                    have HZN : Hid ((zb || false) = (liveL PP G (k + 1)).any fun x => x.2.tos.getLsbD u) := by unfold Hid; rw [HPF.out, List.any_append, ← HZ.out]; simp [hb6]
                    clear hb6
                    cases zb
                    all_goals
                      go_wp2_with (at_builtin; refine wpList_appG rfl (.tmp 97) (.tmp 99) 58 rfl Try.underlying58 _ 8 infoInt1 zero1 (by decide) (by decide) cells1_len cells1_one W.heap.size _ _ rfl HO2.out _ 1 1 [(k : Int)] rfl HI2.out (by rw [HNB.out]; have := HLK.out; omega) (by simp; omega) ?_)
                      intro v9 w9 ho9 hg9 _
                      rw [← HBS.out, ← HPF.out] at ho9
                      have HO9 := Lib.hid ho9
                      have HB9 := Lib.hid (HB2.out.grown hg9 HB2.out.size (fun z hz => (HLT.out z hz).1))
                      have x6 := (World.cell?_of_block (a := ⟨wr.heap.size, 5, none⟩) (hg9.block wr.heap.size HBX2.out.1 (fun e => by have := (HLT.out _ e.symm).2; omega))).trans HBX2.out.2.2.2.2.2.2.1
                      clear ho9 hg9
                      go_wp2_with fail
                      exact ⟨⟨k + 1, _, by omega, by go_num, rfl, HZN.out, HO9.out, HB9.out⟩, by simp [intOf]; omega⟩
                  · skip
                    rw [hb6] at ht6
                    simp only [if_true] at ht6
                    have HZN : Hid ((zb || true) = (liveL PP G (k + 1)).any fun x => x.2.tos.getLsbD u) := by unfold Hid; rw [HPF.out, List.any_append, ← HZ.out]; simp [hb6]
                    clear hb6
                    cases zb
                    all_goals
                      go_wp2_with (at_builtin; refine wpList_appG rfl (.tmp 97) (.tmp 99) 58 rfl Try.underlying58 _ 8 infoInt1 zero1 (by decide) (by decide) cells1_len cells1_one W.heap.size _ _ rfl HO2.out _ 1 1 [(k : Int)] rfl HI2.out (by rw [HNB.out]; have := HLK.out; omega) (by simp; omega) ?_)
                      intro v9 w9 ho9 hg9 _
                      rw [← HBS.out, ← HPF.out] at ho9
                      have HO9 := Lib.hid ho9
                      have HB9 := Lib.hid (HB2.out.grown hg9 HB2.out.size (fun z hz => (HLT.out z hz).1))
                      have x6 := (World.cell?_of_block (a := ⟨wr.heap.size, 5, none⟩) (hg9.block wr.heap.size HBX2.out.1 (fun e => by have := (HLT.out _ e.symm).2; omega))).trans HBX2.out.2.2.2.2.2.2.1
                      clear ho9 hg9
                      go_wp2_with fail
                      exact ⟨⟨k + 1, _, by omega, by go_num, rfl, HZN.out, HO9.out, HB9.out⟩, by simp [intOf]; omega⟩
            · have HPF := Lib.hid (HTF.out HSG.out)
              go_wp2_with fail
              exact ⟨⟨k + 1, zb, by omega, by go_num, rfl, by rw [HPF.out]; exact HZ.out, by rw [HPF.out]; exact HO1.out, HB1.out⟩, by simp [intOf]; omega⟩
          · rw [decide_eq_false h, Bool.false_and] at HSG
            have HPF := Lib.hid (HTF.out HSG.out)
            go_wp2_with fail
            all_goals
              first
                | (exfalso; omega)
                | exact ⟨⟨k + 1, zb, by omega, by go_num, rfl, by rw [HPF.out]; exact HZ.out, by rw [HPF.out]; exact HOr.out.alloc _, HBr.out.alloc HBr.out.size _⟩, by simp [intOf]; omega⟩
        · obtain rfl : k = len' := by omega
          rw [← HGL.out] at HZ HOr
          have ht := tmod_bitn TW u
          rw [HTW.out, ← HZ.out] at ht
          have HQ := Lib.hid (OwnOf.isOf cells1_len HOr.out)
          clear HOr HTW HZ
          have HN : Hid ((byL (liveL PP G G.length)).length ≤ 1000000) := by unfold Hid; rw [HBL.out]; have := HLL2.out G.length; have := HGL.out; omega
          generalize byL (liveL PP G G.length) = Y at *
          obtain ⟨xa, ya, rfl, hia⟩ := HQ.out
          have HIA := Lib.hid hia
          clear hia HQ
          cases zb
          · simp only [Bool.false_eq_true, if_false] at ht
            go_wp2_with fail
            refine (eqn_any x12 xa _ y12 ya Y HN.out _ (HI.out.later HBr.out) HIA.out).mono ?_
            rintro e w7 ⟨rfl, hB7⟩
            have HB7 := Lib.hid (Below.next (Below.next HB5.out HBr.out) hB7)
            clear hB7
            go_wp2_with fail
            refine (Go.Proofs.Ytigofjamednfpaa.example21 _).mono ?_
            rintro e wE ⟨rfl, hBE⟩
            have HBE := Lib.hid (Below.next HB7.out hBE)
            go_wp2_with fail
            go_ret
            exact ⟨rfl, HBE.out⟩
          · simp only [if_true] at ht
            go_wp2_with fail
            refine (eqn_any x12 xa _ y12 ya Y HN.out _ (HI.out.later HBr.out) HIA.out).mono ?_
            rintro e w7 ⟨rfl, hB7⟩
            have HB7 := Lib.hid (Below.next (Below.next HB5.out HBr.out) hB7)
            clear hB7
            go_wp2_with fail
            refine (Go.Proofs.Ytigofjamednfpaa.example21 _).mono ?_
            rintro e wE ⟨rfl, hBE⟩
            have HBE := Lib.hid (Below.next HB7.out hBE)
            go_wp2_with fail
            go_ret
            exact ⟨rfl, HBE.out⟩
theorem grantOwned_law (fn : Int) (r1 r2 r3 r4 : Int) (a : Option Addr) (len cap : Nat) (L : List RV) (a' : Option Addr) (len' cap' : Nat) (G : List GV) (us : Int) (w : World) (h0 : (Lit.int .u8 fn).wf = true) (hL : IsL w a len L) (hG : IsG w a' len' G) (h5 : (Lit.int .u8 us).wf = true) :
    Calls Try.prog 8 #[.int .u8 fn, .agg #[.int .i64 r1, .int .i64 r2, .int .i64 r3, .int .i64 r4], .slice a len cap, .slice a' len' cap', .int .u8 us] w fun e w' => e = .returned (.bool true) ∧ Below w.heap.size w w' := by
  obtain ⟨f8, rfl⟩ := u8_word h0
  obtain ⟨u8, rfl⟩ := u8_word h5
  exact grantOwned_any f8.toNat f8.isLt r1 r2 r3 r4 a len cap L a' len' cap' G u8.toNat u8.isLt w hL hG
end Go.Proofs.Ytigofjamednfpaa.Re
