/- The walk of the law. -/
import Derived.Test.YtndijajaddkbhaaGraF
import Derived.Test.YtndijajaddkbhaaClosed
import Derived.Test.YtndijajaddkbhaaCameG
namespace Go.Proofs.Ytndijajaddkbhaa.Re
open Go.RowKit AM
attribute [local simp] DepA isB rsAt
def ForX (tw : W64) (l : List Int) (E : Int) : Fact := fun v w => ∃ a cap, v = .tuple #[.int .u64 (tw.toNat : Int), .slice a l.length cap, .int .i64 E] ∧ IsN w a l.length l
theorem forX_stable (tw : W64) (l : List Int) (E : Int) : Stable (ForX tw l E) := fun _ _ _ hB ⟨a, cap, h1, h2⟩ => ⟨a, cap, h1, h2.later hB⟩
set_option maxRecDepth 100000 in
set_option maxHeartbeats 12800000 in
theorem grantLives_any (fn : Nat) (hfn : fn < 256) (r1 r2 r3 r4 : Int) (a : Option Addr) (len cap : Nat) (L : List RV) (a' : Option Addr) (len' cap' : Nat) (G : List GV) (w : World) (hL : IsL w a len L) (hG : IsG w a' len' G) :
    Calls Try.prog 7 #[.int .u8 (fn : Int), .agg #[.int .i64 r1, .int .i64 r2, .int .i64 r3, .int .i64 r4], .slice a len cap, .slice a' len' cap'] w fun e w' => e = .returned (.bool true) ∧ Below w.heap.size w w' := by
  have HL := Lib.hid hL
  have HLL := Lib.hid hL.1
  have HG := Lib.hid hG
  have HGL := Lib.hid hG.1
  clear hL hG
  have HF := Lib.hid (Four.start w r1 r2 r3 r4 30)
  have HB := Lib.hid (below_alloc w (.cells #[.int .i64 r1, .int .i64 r2, .int .i64 r3, .int .i64 r4] 30))
  go_enter Try.func7, Try.ntmps7
  go_wp2_with fail
  generalize w.alloc (.cells #[.int .i64 r1, .int .i64 r2, .int .i64 r3, .int .i64 r4] 30) = w0 at *
  refine (scheck_big 64 a len cap L _ (HL.out.later HB.out)).mono ?_
  rintro e w1 ⟨rfl, hB1⟩
  have HF1 := Lib.hid (HF.out.later hB1)
  have HB1 := Lib.hid (Below.next HB.out hB1)
  clear hB1 HF HB
  unfold ckV
  generalize (rck 64 L).1 = q1
  generalize (rck 64 L).2 = q2
  by_cases hl66 : 66 < len
  · go_wp2_with fail
    go_ret
    exact ⟨rfl, HB1.out⟩
  have hd1 : decide ((66 : Int) < (len : Int)) = false := by simp; omega
  by_cases hq : q2 = 0 ∧ 10 < len
  · obtain ⟨rfl, hl10⟩ := hq
    go_wp2_with fail
    go_ret
    exact ⟨rfl, HB1.out⟩
  by_cases hl20 : 20 < len'
  · by_cases hq2 : q2 = 0
    · subst hq2
      have hd2 : decide ((10 : Int) < (len : Int)) = false := by simp; omega
      go_wp2_with fail
      go_ret
      exact ⟨rfl, HB1.out⟩
    · have hd2 : (q2 == 0) = false := by simpa using hq2
      go_wp2_with fail
      go_ret
      exact ⟨rfl, HB1.out⟩
  have hd3 : decide ((20 : Int) < (len' : Int)) = false := by simp; omega
  have hl : len ≤ 66 := by omega
  have hl' : len' ≤ 20 := by omega
  by_cases hq2 : q2 = 0
  · subst hq2
    have hd2 : decide ((10 : Int) < (len : Int)) = false := by simp; omega
    clear hq
    go_wp2_with fail
    clear hd1 hd2 hd3
    refine wp_region_seqi (fun X => Below w1.heap.size w1 X) (fun W W2 hB h => Below.next h hB) (by kernel_rfl) (by kernel_rfl) (by kernel_rfl) (Below.refl _ _).drew ?_
    simp only [putsL, Act.put, List.setIfInBounds_toArray, List.set_cons_zero, List.set_cons_succ, Nat.zero_add, Nat.reduceAdd]
    refine seqi_run ?_ (fun vs W hD => (by first | rfl | (simp at hD; simp [Region.wanted, yielded, hD]))) (fun vs W hS hD => ?_) ?_
    rotate_left
    · obtain _ := hS; (try simp at hD); (try simp only [hD]); (first | (go_simp; done) | (go_simp; rfl))
    simp only [List.nil_append]
    refine seqi_run ?_ (fun vs W hD => (by first | rfl | (simp at hD; simp [Region.wanted, yielded, hD]))) (fun vs W hS hD => ?_) ?_
    rotate_left
    · obtain ⟨_, c1, c2, c3, c4⟩ := HF1.out.later hS; obtain _ := hS; (try simp at hD); (try simp only [hD]); (first | (go_simp; done) | (go_simp; rfl))
    simp only [List.nil_append, List.cons_append]
    refine seqi_run ?_ (fun vs W hD => (by first | rfl | (simp at hD; simp [Region.wanted, yielded, hD]))) (fun vs W hS hD => ?_) ?_
    rotate_left
    · obtain _ := hS; (try simp at hD); (try simp only [hD]); (first | (go_simp; done) | (go_simp; rfl))
    simp only [List.nil_append, List.cons_append]
    refine seqi_call (f := 13) (ListOf cells7 7 L) (listOf_stable _ _ _) (fun vs => #[.slice a len cap]) (fun vs W hD => (by first | rfl | (simp at hD; simp [Region.wanted, yielded, hD]))) (fun vs W hS hD => ?_) (fun vs W hS hD => ?_) ?_
    · obtain _ := hS; (try simp at hD); (try simp only [hD]); go_simp; done
    · exact (copyrules_any a len cap L (by omega) W ((HL.out.later HB1.out).later hS)).mono fun e W' ⟨⟨v, he, ho⟩, hB⟩ => ⟨⟨_, he, OwnOf.isOf cells7_len ho⟩, hB⟩
    simp only [List.nil_append, List.cons_append]
    refine seqi_run ?_ (fun vs W hD => (by first | rfl | (simp at hD; simp [Region.wanted, yielded, hD]))) (fun vs W hS hD => ?_) ?_
    rotate_left
    · obtain _ := hS; (try simp at hD); (try simp only [hD]); (first | (go_simp; done) | (go_simp; rfl))
    simp only [List.nil_append, List.cons_append]
    refine seqi_call (f := 30) (ListOf cells8 8 G) (listOf_stable _ _ _) (fun vs => #[.slice a' len' cap']) (fun vs W hD => (by first | rfl | (simp at hD; simp [Region.wanted, yielded, hD]))) (fun vs W hS hD => ?_) (fun vs W hS hD => ?_) ?_
    · obtain _ := hS; (try simp at hD); (try simp only [hD]); go_simp; done
    · exact (copygrants_any a' len' cap' G (by omega) W ((HG.out.later HB1.out).later hS)).mono fun e W' ⟨⟨v, he, ho⟩, hB⟩ => ⟨⟨_, he, OwnOf.isOf cells8_len ho⟩, hB⟩
    simp only [List.nil_append, List.cons_append]
    refine seqi_call (f := 29) (ForX (toW (forL fn ⟨r1, r2, r3, r4⟩ L G)) (byL (forL fn ⟨r1, r2, r3, r4⟩ L G)) (forE fn ⟨r1, r2, r3, r4⟩ L G)) (forX_stable _ _ _) (fun vs => #[.int .u8 (fn : Int), .agg #[.int .i64 r1, .int .i64 r2, .int .i64 r3, .int .i64 r4], vs 3, vs 5]) (fun vs W hD => (by first | rfl | (simp at hD; simp [Region.wanted, yielded, hD]))) (fun vs W hS hD => ?_) (fun vs W hS hD => ?_) ?_
    · obtain _ := hS; (try simp at hD); (try simp only [hD]); go_simp; done
    · simp at hD; obtain ⟨_, _, ⟨x3, y3, e3, i3⟩, x5, y5, e5, i5⟩ := hD; rw [e3, e5]; exact (pfor_all fn hfn r1 r2 r3 r4 x3 _ y3 L x5 _ y5 G (by have := HLL.out; omega) (by have := HGL.out; omega) W i3 i5).mono fun e W' ⟨⟨v, he, ho⟩, hB⟩ => (by obtain ⟨x6, y6, rfl, i6⟩ := OwnOf.isOf cells1_len ho; exact ⟨⟨_, he, x6, y6, rfl, i6⟩, hB⟩)
    simp only [List.nil_append, List.cons_append]
    refine seqi_dep (ForX (toW (forL fn ⟨r1, r2, r3, r4⟩ L G)) (byL (forL fn ⟨r1, r2, r3, r4⟩ L G)) (forE fn ⟨r1, r2, r3, r4⟩ L G)) (forX_stable _ _ _) (fun vs W hD => (by first | rfl | (simp at hD; simp [Region.wanted, yielded, hD]))) (fun vs W hS hD => ?_) ?_
    · simp at hD; refine ⟨vs 6, ?_, ?_⟩; (· (go_simp; done)); (first | exact hD | (repeat (first | exact hD.1 | replace hD := hD.2)); done)
    simp only [List.nil_append, List.cons_append]
    refine seqi_run (.int .u64 ((toW (forL fn ⟨r1, r2, r3, r4⟩ L G)).toNat : Int)) (fun vs W hD => (by first | rfl | (simp at hD; simp [Region.wanted, yielded, hD]))) (fun vs W hS hD => ?_) ?_
    · simp at hD; obtain ⟨x6, y6, e6, i6⟩ := hD; go_simp; done
    simp only [List.nil_append, List.cons_append]
    refine seqi_dep (ListOf cells1 1 (byL (forL fn ⟨r1, r2, r3, r4⟩ L G))) (listOf_stable _ _ _) (fun vs W hD => (by first | rfl | (simp at hD; simp [Region.wanted, yielded, hD]))) (fun vs W hS hD => ?_) ?_
    · simp at hD; obtain ⟨x6, y6, e6, i6⟩ := hD; refine ⟨_, ?_, x6, y6, rfl, i6⟩; go_simp; done
    simp only [List.nil_append, List.cons_append]
    refine seqi_run (.int .i64 (forE fn ⟨r1, r2, r3, r4⟩ L G)) (fun vs W hD => (by first | rfl | (simp at hD; simp [Region.wanted, yielded, hD]))) (fun vs W hS hD => ?_) ?_
    · simp at hD; obtain ⟨x6, y6, e6, i6⟩ := hD; go_simp; done
    simp only [List.nil_append, List.cons_append]
    refine seqi_run ?_ (fun vs W hD => (by first | rfl | (simp at hD; simp [Region.wanted, yielded, hD]))) (fun vs W hS hD => ?_) ?_
    rotate_left
    · obtain _ := hS; (try simp at hD); (try simp only [hD]); (first | (go_simp; done) | (go_simp; rfl))
    simp only [List.nil_append, List.cons_append]
    refine seqi_dep (ListOf cells1 1 (byL (forL fn ⟨r1, r2, r3, r4⟩ L G))) (listOf_stable _ _ _) (fun vs W hD => (by first | rfl | (simp at hD; simp [Region.wanted, yielded, hD]))) (fun vs W hS hD => ?_) ?_
    · simp at hD; refine ⟨vs 9, ?_, ?_⟩; (· (go_simp; done)); (first | exact hD | (repeat (first | exact hD.1 | replace hD := hD.2)); done)
    simp only [List.nil_append, List.cons_append]
    refine seqi_run ?_ (fun vs W hD => (by first | rfl | (simp at hD; simp [Region.wanted, yielded, hD]))) (fun vs W hS hD => ?_) ?_
    rotate_left
    · obtain _ := hS; (try simp at hD); (try simp only [hD]); (first | (go_simp; done) | (go_simp; rfl))
    simp only [List.nil_append, List.cons_append]
    refine seqi_end fun vs W0 hS hv => ?_
    simp only [AllF, Nat.zero_add, Nat.reduceAdd] at hv
    obtain ⟨h0, h1, h2, h3, h4, h5, h6, h7, h8, h9, h10, h11, h12, h13, _⟩ := hv
    have HB5 := Lib.hid (Below.next HB1.out hS)
    have HF5 := Lib.hid (HF1.out.later hS)
    obtain ⟨x9, y9, e9, i9⟩ := h9
    obtain ⟨x12, y12, e12, i12⟩ := h12
    have HI := Lib.hid i12
    clear hS h3 h5 h6 h7 i9 i12 HB1 HF1
    simp only [h0, h1, h2, h4, h8, e9, h10, h11, e12, h13]
    clear h0 h1 h2 h4 h8 e9 h10 h11 e12 h13
    have HSF := Lib.hid (fun W h1 h2 => sfor_any fn hfn r1 r2 r3 r4 a len cap L a' len' cap' G W h1 h2)
    have hbl : (byL (forL fn ⟨r1, r2, r3, r4⟩ L G)).length ≤ 20 := by
      rw [byL_len]
      by_cases he : forE fn ⟨r1, r2, r3, r4⟩ L G = 0
      · rw [forL_ok he]; have := liveL_len (fun g => kindB ⟨r1, r2, r3, r4⟩ fn g && lvB g L) G G.length; have := HGL.out; omega
      · rw [forL_bad he]; simp
    generalize toW (forL fn ⟨r1, r2, r3, r4⟩ L G) = TW at *
    generalize forE fn ⟨r1, r2, r3, r4⟩ L G = EE at *
    generalize byL (forL fn ⟨r1, r2, r3, r4⟩ L G) = BY at *
    obtain ⟨_, c1, c2, c3, c4⟩ := HF5.out
    go_wp2_with fail
    clear c1 c2 c3 c4
    refine (HSF.out _ (HL.out.later HB5.out) (HG.out.later HB5.out)).mono ?_
    rintro e w6 ⟨⟨v, rfl, ho⟩, hB6⟩
    obtain ⟨sa, sc, rfl, hi⟩ := ho.isOf cells1_len
    have HS6 := Lib.hid hi
    have HI6 := Lib.hid (HI.out.later hB6)
    have HB6 := Lib.hid (Below.next HB5.out hB6)
    clear ho hi hB6 HB5 HI HF5 HSF
    obtain ⟨nb, hnb⟩ : ∃ nb, nb = BY.length := ⟨_, rfl⟩
    rw [← hnb] at HS6 HI6 hbl ⊢
    have hbb : (EE != EE) = false := by simp
    clear hnb
    go_wp2_with fail
    refine (eqn_any x12 sa nb y12 sc BY (by omega) _ HI6.out HS6.out).mono ?_
    rintro e w7 ⟨rfl, hB7⟩
    have HB7 := Lib.hid (Below.next HB6.out hB7)
    clear hB7 HB6 HI6 HS6
    go_wp2_with fail
    clear hbb
    go_loopw [17] (fun i wr => ∃ k : Nat, k ≤ len' ∧ i = .int .i64 k ∧ Below w7.heap.size w7 wr) (fun i _ => len' - (intOf i).toNat)
    case atStart => exact ⟨0, Nat.zero_le _, rfl, Below.refl _ _⟩
    case round =>
      obtain ⟨k, hk, rfl, hB⟩ := hrel
      have HBr := Lib.hid (Below.next HB7.out hB)
      have HBw := Lib.hid hB
      clear hB
      by_cases hlt : k < len'
      · have hkG : k < G.length := by rw [HGL.out]; exact hlt
        obtain ⟨b, off, rfl, hrow⟩ := (HG.out.later HBr.out).2 (by omega)
        have HGK : Hid (∀ W, Below wr.heap.size wr W → b < W.heap.size ∧ GEight W b (off + k * 8) G[k]) := fun W hB => ⟨(hrow.later hB).1, RowOf.eight (hrow.later hB) k hkG⟩
        have HLV := Lib.hid (fun x n y W h => plive_any G[k] x n y L (by have := h.1; have := HLL.out; omega) W h)
        have HSL := Lib.hid (fun W h => slive_any G[k] a len cap L W h)
        clear hrow
        generalize lvB G[k] L = lb at *
        generalize lvE G[k] L = le at *
        generalize G[k] = g at *
        obtain ⟨g1, g2, g3, g4, g5, g6, g7, g8⟩ := g
        unfold cells8 at HLV HSL
        dsimp only at *
        go_wp2_with fail
        refine wp_region_seqi (fun X => Below wr.heap.size wr X) (fun W W2 hB h => Below.next h hB) (by kernel_rfl) (by kernel_rfl) (by kernel_rfl) (Below.refl _ _).drew ?_
        simp only [putsL, Act.put, List.setIfInBounds_toArray, List.set_cons_zero, List.set_cons_succ, Nat.zero_add, Nat.reduceAdd]
        refine seqi_run ?_ (fun vs W hD => (by first | rfl | (simp at hD; simp [Region.wanted, yielded, hD]))) (fun vs W hS hD => ?_) ?_
        rotate_left
        · obtain _ := hS; (try simp at hD); (try simp only [hD]); (first | (go_simp; done) | (go_simp; rfl))
        simp only [List.nil_append]
        refine seqi_run ?_ (fun vs W hD => (by first | rfl | (simp at hD; simp [Region.wanted, yielded, hD]))) (fun vs W hS hD => ?_) ?_
        rotate_left
        · obtain _ := hS; (try simp at hD); (try simp only [hD]); (first | (go_simp; done) | (go_simp; rfl))
        simp only [List.nil_append, List.cons_append]
        refine seqi_run ?_ (fun vs W hD => (by first | rfl | (simp at hD; simp [Region.wanted, yielded, hD]))) (fun vs W hS hD => ?_) ?_
        rotate_left
        · obtain _ := hS; (try simp at hD); (try simp only [hD]); (first | (go_simp; done) | (go_simp; rfl))
        simp only [List.nil_append, List.cons_append]
        refine seqi_run ?_ (fun vs W hD => (by first | rfl | (simp at hD; simp [Region.wanted, yielded, hD]))) (fun vs W hS hD => ?_) ?_
        rotate_left
        · obtain ⟨hb9, d1, d2, d3, d4, d5, d6, d7, d8⟩ := HGK.out _ hS; dsimp only at d1 d2 d3 d4 d5 d6 d7 d8; obtain _ := hS; (try simp at hD); (try simp only [hD]); (first | (go_simp; done) | (go_simp; rfl))
        simp only [List.nil_append, List.cons_append]
        refine seqi_run ?_ (fun vs W hD => (by first | rfl | (simp at hD; simp [Region.wanted, yielded, hD]))) (fun vs W hS hD => ?_) ?_
        rotate_left
        · obtain _ := hS; (try simp at hD); (try simp only [hD]); (first | (go_simp; done) | (go_simp; rfl))
        simp only [List.nil_append, List.cons_append]
        refine seqi_call (f := 13) (ListOf cells7 7 L) (listOf_stable _ _ _) (fun vs => #[.slice a len cap]) (fun vs W hD => (by first | rfl | (simp at hD; simp [Region.wanted, yielded, hD]))) (fun vs W hS hD => ?_) (fun vs W hS hD => ?_) ?_
        · obtain _ := hS; (try simp at hD); (try simp only [hD]); go_simp; done
        · exact (copyrules_any a len cap L (by omega) W ((HL.out.later HBr.out).later hS)).mono fun e W' ⟨⟨v, he, ho⟩, hB⟩ => ⟨⟨_, he, OwnOf.isOf cells7_len ho⟩, hB⟩
        simp only [List.nil_append, List.cons_append]
        refine seqi_call (f := 33) (fun v _ => v = .tuple #[.bool lb, .int .i64 le]) (stable_val _) (fun vs => #[.agg #[.int .i64 g1, .int .i64 g2, .int .i64 g3, .int .i64 g4, .int .u8 (g5.toNat : Int), .int .u64 (g6.toNat : Int), .int .i64 g7, .bool g8], vs 5]) (fun vs W hD => (by first | rfl | (simp at hD; simp [Region.wanted, yielded, hD]))) (fun vs W hS hD => ?_) (fun vs W hS hD => ?_) ?_
        · obtain _ := hS; (try simp at hD); (try simp only [hD]); go_simp; done
        · simp at hD; obtain ⟨_, x5, y5, e5, i5⟩ := hD; rw [e5]; exact (HLV.out x5 _ y5 W i5).mono fun e W' ⟨he, hB⟩ => ⟨⟨_, he, rfl⟩, hB⟩
        simp only [List.nil_append, List.cons_append]
        refine seqi_run ?_ (fun vs W hD => (by first | rfl | (simp at hD; simp [Region.wanted, yielded, hD]))) (fun vs W hS hD => ?_) ?_
        rotate_left
        · obtain _ := hS; (try simp at hD); (try simp only [hD]); (first | (go_simp; done) | (go_simp; rfl))
        simp only [List.nil_append, List.cons_append]
        refine seqi_run (.bool lb) (fun vs W hD => (by first | rfl | (simp at hD; simp [Region.wanted, yielded, hD]))) (fun vs W hS hD => ?_) ?_
        · simp at hD; (try simp only [hD]); go_simp; done
        simp only [List.nil_append, List.cons_append]
        refine seqi_run (.int .i64 le) (fun vs W hD => (by first | rfl | (simp at hD; simp [Region.wanted, yielded, hD]))) (fun vs W hS hD => ?_) ?_
        · simp at hD; (try simp only [hD]); go_simp; done
        simp only [List.nil_append, List.cons_append]
        refine seqi_run ?_ (fun vs W hD => (by first | rfl | (simp at hD; simp [Region.wanted, yielded, hD]))) (fun vs W hS hD => ?_) ?_
        rotate_left
        · obtain _ := hS; (try simp at hD); (try simp only [hD]); (first | (go_simp; done) | (go_simp; rfl))
        simp only [List.nil_append, List.cons_append]
        refine seqi_run ?_ (fun vs W hD => (by first | rfl | (simp at hD; simp [Region.wanted, yielded, hD]))) (fun vs W hS hD => ?_) ?_
        rotate_left
        · obtain _ := hS; (try simp at hD); (try simp only [hD]); (first | (go_simp; done) | (go_simp; rfl))
        simp only [List.nil_append, List.cons_append]
        refine seqi_end fun vs W0 hS hv => ?_
        simp only [AllF, Nat.zero_add, Nat.reduceAdd] at hv
        obtain ⟨h0, h1, h2, h3, h4, h5, h6, h7, h8, h9, h10, h11, _⟩ := hv
        have HB9 := Lib.hid (Below.next HBr.out hS)
        have HBw9 := Lib.hid (Below.next HBw.out hS)
        obtain ⟨hbl9, d1, d2, d3, d4, d5, d6, d7, d8⟩ := HGK.out _ hS
        dsimp only at d1 d2 d3 d4 d5 d6 d7 d8
        simp only [h0, h1, h2, h3, h4, h6, h7, h8, h9, h10, h11]
        clear h0 h1 h2 h3 h4 h5 h6 h7 h8 h9 h10 h11 hS HBr HBw HGK HLV
        go_wp2_with fail
        clear d1 d2 d3 d4 d5 d6 d7 d8
        refine (HSL.out _ (HL.out.later HB9.out)).mono ?_
        rintro e wc ⟨rfl, hBc⟩
        have HBc := Lib.hid (Below.next HBw9.out hBc)
        clear hBc HB9 HBw9 HSL
        have hb1 : (lb != lb) = false := by simp
        have hb2 : (le != le) = false := by simp
        go_wp2_with fail
        go_roundw
        case rel => exact ⟨k + 1, by omega, by go_num, HBc.out⟩
        case measure => simp [intOf]; omega
      · obtain rfl : k = len' := by omega
        go_wp2_with fail
        refine (Go.Proofs.Ytndijajaddkbhaa.example21 _).mono ?_
        rintro e wE ⟨rfl, hBE⟩
        have HBE := Lib.hid (Below.next HBr.out hBE)
        go_wp2_with fail
        go_ret
        exact ⟨rfl, HBE.out⟩
  · have hd2 : (q2 == 0) = false := by simpa using hq2
    clear hq
    go_wp2_with fail
    clear hd1 hd2 hd3 hq2
    refine wp_region_seqi (fun X => Below w1.heap.size w1 X) (fun W W2 hB h => Below.next h hB) (by kernel_rfl) (by kernel_rfl) (by kernel_rfl) (Below.refl _ _).drew ?_
    simp only [putsL, Act.put, List.setIfInBounds_toArray, List.set_cons_zero, List.set_cons_succ, Nat.zero_add, Nat.reduceAdd]
    refine seqi_run ?_ (fun vs W hD => (by first | rfl | (simp at hD; simp [Region.wanted, yielded, hD]))) (fun vs W hS hD => ?_) ?_
    rotate_left
    · obtain _ := hS; (try simp at hD); (try simp only [hD]); (first | (go_simp; done) | (go_simp; rfl))
    simp only [List.nil_append]
    refine seqi_run ?_ (fun vs W hD => (by first | rfl | (simp at hD; simp [Region.wanted, yielded, hD]))) (fun vs W hS hD => ?_) ?_
    rotate_left
    · obtain ⟨_, c1, c2, c3, c4⟩ := HF1.out.later hS; obtain _ := hS; (try simp at hD); (try simp only [hD]); (first | (go_simp; done) | (go_simp; rfl))
    simp only [List.nil_append, List.cons_append]
    refine seqi_run ?_ (fun vs W hD => (by first | rfl | (simp at hD; simp [Region.wanted, yielded, hD]))) (fun vs W hS hD => ?_) ?_
    rotate_left
    · obtain _ := hS; (try simp at hD); (try simp only [hD]); (first | (go_simp; done) | (go_simp; rfl))
    simp only [List.nil_append, List.cons_append]
    refine seqi_call (f := 13) (ListOf cells7 7 L) (listOf_stable _ _ _) (fun vs => #[.slice a len cap]) (fun vs W hD => (by first | rfl | (simp at hD; simp [Region.wanted, yielded, hD]))) (fun vs W hS hD => ?_) (fun vs W hS hD => ?_) ?_
    · obtain _ := hS; (try simp at hD); (try simp only [hD]); go_simp; done
    · exact (copyrules_any a len cap L (by omega) W ((HL.out.later HB1.out).later hS)).mono fun e W' ⟨⟨v, he, ho⟩, hB⟩ => ⟨⟨_, he, OwnOf.isOf cells7_len ho⟩, hB⟩
    simp only [List.nil_append, List.cons_append]
    refine seqi_run ?_ (fun vs W hD => (by first | rfl | (simp at hD; simp [Region.wanted, yielded, hD]))) (fun vs W hS hD => ?_) ?_
    rotate_left
    · obtain _ := hS; (try simp at hD); (try simp only [hD]); (first | (go_simp; done) | (go_simp; rfl))
    simp only [List.nil_append, List.cons_append]
    refine seqi_call (f := 30) (ListOf cells8 8 G) (listOf_stable _ _ _) (fun vs => #[.slice a' len' cap']) (fun vs W hD => (by first | rfl | (simp at hD; simp [Region.wanted, yielded, hD]))) (fun vs W hS hD => ?_) (fun vs W hS hD => ?_) ?_
    · obtain _ := hS; (try simp at hD); (try simp only [hD]); go_simp; done
    · exact (copygrants_any a' len' cap' G (by omega) W ((HG.out.later HB1.out).later hS)).mono fun e W' ⟨⟨v, he, ho⟩, hB⟩ => ⟨⟨_, he, OwnOf.isOf cells8_len ho⟩, hB⟩
    simp only [List.nil_append, List.cons_append]
    refine seqi_call (f := 29) (ForX (toW (forL fn ⟨r1, r2, r3, r4⟩ L G)) (byL (forL fn ⟨r1, r2, r3, r4⟩ L G)) (forE fn ⟨r1, r2, r3, r4⟩ L G)) (forX_stable _ _ _) (fun vs => #[.int .u8 (fn : Int), .agg #[.int .i64 r1, .int .i64 r2, .int .i64 r3, .int .i64 r4], vs 3, vs 5]) (fun vs W hD => (by first | rfl | (simp at hD; simp [Region.wanted, yielded, hD]))) (fun vs W hS hD => ?_) (fun vs W hS hD => ?_) ?_
    · obtain _ := hS; (try simp at hD); (try simp only [hD]); go_simp; done
    · simp at hD; obtain ⟨_, _, ⟨x3, y3, e3, i3⟩, x5, y5, e5, i5⟩ := hD; rw [e3, e5]; exact (pfor_all fn hfn r1 r2 r3 r4 x3 _ y3 L x5 _ y5 G (by have := HLL.out; omega) (by have := HGL.out; omega) W i3 i5).mono fun e W' ⟨⟨v, he, ho⟩, hB⟩ => (by obtain ⟨x6, y6, rfl, i6⟩ := OwnOf.isOf cells1_len ho; exact ⟨⟨_, he, x6, y6, rfl, i6⟩, hB⟩)
    simp only [List.nil_append, List.cons_append]
    refine seqi_dep (ForX (toW (forL fn ⟨r1, r2, r3, r4⟩ L G)) (byL (forL fn ⟨r1, r2, r3, r4⟩ L G)) (forE fn ⟨r1, r2, r3, r4⟩ L G)) (forX_stable _ _ _) (fun vs W hD => (by first | rfl | (simp at hD; simp [Region.wanted, yielded, hD]))) (fun vs W hS hD => ?_) ?_
    · simp at hD; refine ⟨vs 6, ?_, ?_⟩; (· (go_simp; done)); (first | exact hD | (repeat (first | exact hD.1 | replace hD := hD.2)); done)
    simp only [List.nil_append, List.cons_append]
    refine seqi_run (.int .u64 ((toW (forL fn ⟨r1, r2, r3, r4⟩ L G)).toNat : Int)) (fun vs W hD => (by first | rfl | (simp at hD; simp [Region.wanted, yielded, hD]))) (fun vs W hS hD => ?_) ?_
    · simp at hD; obtain ⟨x6, y6, e6, i6⟩ := hD; go_simp; done
    simp only [List.nil_append, List.cons_append]
    refine seqi_dep (ListOf cells1 1 (byL (forL fn ⟨r1, r2, r3, r4⟩ L G))) (listOf_stable _ _ _) (fun vs W hD => (by first | rfl | (simp at hD; simp [Region.wanted, yielded, hD]))) (fun vs W hS hD => ?_) ?_
    · simp at hD; obtain ⟨x6, y6, e6, i6⟩ := hD; refine ⟨_, ?_, x6, y6, rfl, i6⟩; go_simp; done
    simp only [List.nil_append, List.cons_append]
    refine seqi_run (.int .i64 (forE fn ⟨r1, r2, r3, r4⟩ L G)) (fun vs W hD => (by first | rfl | (simp at hD; simp [Region.wanted, yielded, hD]))) (fun vs W hS hD => ?_) ?_
    · simp at hD; obtain ⟨x6, y6, e6, i6⟩ := hD; go_simp; done
    simp only [List.nil_append, List.cons_append]
    refine seqi_run ?_ (fun vs W hD => (by first | rfl | (simp at hD; simp [Region.wanted, yielded, hD]))) (fun vs W hS hD => ?_) ?_
    rotate_left
    · obtain _ := hS; (try simp at hD); (try simp only [hD]); (first | (go_simp; done) | (go_simp; rfl))
    simp only [List.nil_append, List.cons_append]
    refine seqi_dep (ListOf cells1 1 (byL (forL fn ⟨r1, r2, r3, r4⟩ L G))) (listOf_stable _ _ _) (fun vs W hD => (by first | rfl | (simp at hD; simp [Region.wanted, yielded, hD]))) (fun vs W hS hD => ?_) ?_
    · simp at hD; refine ⟨vs 9, ?_, ?_⟩; (· (go_simp; done)); (first | exact hD | (repeat (first | exact hD.1 | replace hD := hD.2)); done)
    simp only [List.nil_append, List.cons_append]
    refine seqi_run ?_ (fun vs W hD => (by first | rfl | (simp at hD; simp [Region.wanted, yielded, hD]))) (fun vs W hS hD => ?_) ?_
    rotate_left
    · obtain _ := hS; (try simp at hD); (try simp only [hD]); (first | (go_simp; done) | (go_simp; rfl))
    simp only [List.nil_append, List.cons_append]
    refine seqi_end fun vs W0 hS hv => ?_
    simp only [AllF, Nat.zero_add, Nat.reduceAdd] at hv
    obtain ⟨h0, h1, h2, h3, h4, h5, h6, h7, h8, h9, h10, h11, h12, h13, _⟩ := hv
    have HB5 := Lib.hid (Below.next HB1.out hS)
    have HF5 := Lib.hid (HF1.out.later hS)
    obtain ⟨x9, y9, e9, i9⟩ := h9
    obtain ⟨x12, y12, e12, i12⟩ := h12
    have HI := Lib.hid i12
    clear hS h3 h5 h6 h7 i9 i12 HB1 HF1
    simp only [h0, h1, h2, h4, h8, e9, h10, h11, e12, h13]
    clear h0 h1 h2 h4 h8 e9 h10 h11 e12 h13
    have HSF := Lib.hid (fun W h1 h2 => sfor_any fn hfn r1 r2 r3 r4 a len cap L a' len' cap' G W h1 h2)
    have hbl : (byL (forL fn ⟨r1, r2, r3, r4⟩ L G)).length ≤ 20 := by
      rw [byL_len]
      by_cases he : forE fn ⟨r1, r2, r3, r4⟩ L G = 0
      · rw [forL_ok he]; have := liveL_len (fun g => kindB ⟨r1, r2, r3, r4⟩ fn g && lvB g L) G G.length; have := HGL.out; omega
      · rw [forL_bad he]; simp
    generalize toW (forL fn ⟨r1, r2, r3, r4⟩ L G) = TW at *
    generalize forE fn ⟨r1, r2, r3, r4⟩ L G = EE at *
    generalize byL (forL fn ⟨r1, r2, r3, r4⟩ L G) = BY at *
    obtain ⟨_, c1, c2, c3, c4⟩ := HF5.out
    go_wp2_with fail
    clear c1 c2 c3 c4
    refine (HSF.out _ (HL.out.later HB5.out) (HG.out.later HB5.out)).mono ?_
    rintro e w6 ⟨⟨v, rfl, ho⟩, hB6⟩
    obtain ⟨sa, sc, rfl, hi⟩ := ho.isOf cells1_len
    have HS6 := Lib.hid hi
    have HI6 := Lib.hid (HI.out.later hB6)
    have HB6 := Lib.hid (Below.next HB5.out hB6)
    clear ho hi hB6 HB5 HI HF5 HSF
    obtain ⟨nb, hnb⟩ : ∃ nb, nb = BY.length := ⟨_, rfl⟩
    rw [← hnb] at HS6 HI6 hbl ⊢
    have hbb : (EE != EE) = false := by simp
    clear hnb
    go_wp2_with fail
    refine (eqn_any x12 sa nb y12 sc BY (by omega) _ HI6.out HS6.out).mono ?_
    rintro e w7 ⟨rfl, hB7⟩
    have HB7 := Lib.hid (Below.next HB6.out hB7)
    clear hB7 HB6 HI6 HS6
    go_wp2_with fail
    clear hbb
    go_loopw [17] (fun i wr => ∃ k : Nat, k ≤ len' ∧ i = .int .i64 k ∧ Below w7.heap.size w7 wr) (fun i _ => len' - (intOf i).toNat)
    case atStart => exact ⟨0, Nat.zero_le _, rfl, Below.refl _ _⟩
    case round =>
      obtain ⟨k, hk, rfl, hB⟩ := hrel
      have HBr := Lib.hid (Below.next HB7.out hB)
      have HBw := Lib.hid hB
      clear hB
      by_cases hlt : k < len'
      · have hkG : k < G.length := by rw [HGL.out]; exact hlt
        obtain ⟨b, off, rfl, hrow⟩ := (HG.out.later HBr.out).2 (by omega)
        have HGK : Hid (∀ W, Below wr.heap.size wr W → b < W.heap.size ∧ GEight W b (off + k * 8) G[k]) := fun W hB => ⟨(hrow.later hB).1, RowOf.eight (hrow.later hB) k hkG⟩
        have HLV := Lib.hid (fun x n y W h => plive_any G[k] x n y L (by have := h.1; have := HLL.out; omega) W h)
        have HSL := Lib.hid (fun W h => slive_any G[k] a len cap L W h)
        clear hrow
        generalize lvB G[k] L = lb at *
        generalize lvE G[k] L = le at *
        generalize G[k] = g at *
        obtain ⟨g1, g2, g3, g4, g5, g6, g7, g8⟩ := g
        unfold cells8 at HLV HSL
        dsimp only at *
        go_wp2_with fail
        refine wp_region_seqi (fun X => Below wr.heap.size wr X) (fun W W2 hB h => Below.next h hB) (by kernel_rfl) (by kernel_rfl) (by kernel_rfl) (Below.refl _ _).drew ?_
        simp only [putsL, Act.put, List.setIfInBounds_toArray, List.set_cons_zero, List.set_cons_succ, Nat.zero_add, Nat.reduceAdd]
        refine seqi_run ?_ (fun vs W hD => (by first | rfl | (simp at hD; simp [Region.wanted, yielded, hD]))) (fun vs W hS hD => ?_) ?_
        rotate_left
        · obtain _ := hS; (try simp at hD); (try simp only [hD]); (first | (go_simp; done) | (go_simp; rfl))
        simp only [List.nil_append]
        refine seqi_run ?_ (fun vs W hD => (by first | rfl | (simp at hD; simp [Region.wanted, yielded, hD]))) (fun vs W hS hD => ?_) ?_
        rotate_left
        · obtain _ := hS; (try simp at hD); (try simp only [hD]); (first | (go_simp; done) | (go_simp; rfl))
        simp only [List.nil_append, List.cons_append]
        refine seqi_run ?_ (fun vs W hD => (by first | rfl | (simp at hD; simp [Region.wanted, yielded, hD]))) (fun vs W hS hD => ?_) ?_
        rotate_left
        · obtain _ := hS; (try simp at hD); (try simp only [hD]); (first | (go_simp; done) | (go_simp; rfl))
        simp only [List.nil_append, List.cons_append]
        refine seqi_run ?_ (fun vs W hD => (by first | rfl | (simp at hD; simp [Region.wanted, yielded, hD]))) (fun vs W hS hD => ?_) ?_
        rotate_left
        · obtain ⟨hb9, d1, d2, d3, d4, d5, d6, d7, d8⟩ := HGK.out _ hS; dsimp only at d1 d2 d3 d4 d5 d6 d7 d8; obtain _ := hS; (try simp at hD); (try simp only [hD]); (first | (go_simp; done) | (go_simp; rfl))
        simp only [List.nil_append, List.cons_append]
        refine seqi_run ?_ (fun vs W hD => (by first | rfl | (simp at hD; simp [Region.wanted, yielded, hD]))) (fun vs W hS hD => ?_) ?_
        rotate_left
        · obtain _ := hS; (try simp at hD); (try simp only [hD]); (first | (go_simp; done) | (go_simp; rfl))
        simp only [List.nil_append, List.cons_append]
        refine seqi_call (f := 13) (ListOf cells7 7 L) (listOf_stable _ _ _) (fun vs => #[.slice a len cap]) (fun vs W hD => (by first | rfl | (simp at hD; simp [Region.wanted, yielded, hD]))) (fun vs W hS hD => ?_) (fun vs W hS hD => ?_) ?_
        · obtain _ := hS; (try simp at hD); (try simp only [hD]); go_simp; done
        · exact (copyrules_any a len cap L (by omega) W ((HL.out.later HBr.out).later hS)).mono fun e W' ⟨⟨v, he, ho⟩, hB⟩ => ⟨⟨_, he, OwnOf.isOf cells7_len ho⟩, hB⟩
        simp only [List.nil_append, List.cons_append]
        refine seqi_call (f := 33) (fun v _ => v = .tuple #[.bool lb, .int .i64 le]) (stable_val _) (fun vs => #[.agg #[.int .i64 g1, .int .i64 g2, .int .i64 g3, .int .i64 g4, .int .u8 (g5.toNat : Int), .int .u64 (g6.toNat : Int), .int .i64 g7, .bool g8], vs 5]) (fun vs W hD => (by first | rfl | (simp at hD; simp [Region.wanted, yielded, hD]))) (fun vs W hS hD => ?_) (fun vs W hS hD => ?_) ?_
        · obtain _ := hS; (try simp at hD); (try simp only [hD]); go_simp; done
        · simp at hD; obtain ⟨_, x5, y5, e5, i5⟩ := hD; rw [e5]; exact (HLV.out x5 _ y5 W i5).mono fun e W' ⟨he, hB⟩ => ⟨⟨_, he, rfl⟩, hB⟩
        simp only [List.nil_append, List.cons_append]
        refine seqi_run ?_ (fun vs W hD => (by first | rfl | (simp at hD; simp [Region.wanted, yielded, hD]))) (fun vs W hS hD => ?_) ?_
        rotate_left
        · obtain _ := hS; (try simp at hD); (try simp only [hD]); (first | (go_simp; done) | (go_simp; rfl))
        simp only [List.nil_append, List.cons_append]
        refine seqi_run (.bool lb) (fun vs W hD => (by first | rfl | (simp at hD; simp [Region.wanted, yielded, hD]))) (fun vs W hS hD => ?_) ?_
        · simp at hD; (try simp only [hD]); go_simp; done
        simp only [List.nil_append, List.cons_append]
        refine seqi_run (.int .i64 le) (fun vs W hD => (by first | rfl | (simp at hD; simp [Region.wanted, yielded, hD]))) (fun vs W hS hD => ?_) ?_
        · simp at hD; (try simp only [hD]); go_simp; done
        simp only [List.nil_append, List.cons_append]
        refine seqi_run ?_ (fun vs W hD => (by first | rfl | (simp at hD; simp [Region.wanted, yielded, hD]))) (fun vs W hS hD => ?_) ?_
        rotate_left
        · obtain _ := hS; (try simp at hD); (try simp only [hD]); (first | (go_simp; done) | (go_simp; rfl))
        simp only [List.nil_append, List.cons_append]
        refine seqi_run ?_ (fun vs W hD => (by first | rfl | (simp at hD; simp [Region.wanted, yielded, hD]))) (fun vs W hS hD => ?_) ?_
        rotate_left
        · obtain _ := hS; (try simp at hD); (try simp only [hD]); (first | (go_simp; done) | (go_simp; rfl))
        simp only [List.nil_append, List.cons_append]
        refine seqi_end fun vs W0 hS hv => ?_
        simp only [AllF, Nat.zero_add, Nat.reduceAdd] at hv
        obtain ⟨h0, h1, h2, h3, h4, h5, h6, h7, h8, h9, h10, h11, _⟩ := hv
        have HB9 := Lib.hid (Below.next HBr.out hS)
        have HBw9 := Lib.hid (Below.next HBw.out hS)
        obtain ⟨hbl9, d1, d2, d3, d4, d5, d6, d7, d8⟩ := HGK.out _ hS
        dsimp only at d1 d2 d3 d4 d5 d6 d7 d8
        simp only [h0, h1, h2, h3, h4, h6, h7, h8, h9, h10, h11]
        clear h0 h1 h2 h3 h4 h5 h6 h7 h8 h9 h10 h11 hS HBr HBw HGK HLV
        go_wp2_with fail
        clear d1 d2 d3 d4 d5 d6 d7 d8
        refine (HSL.out _ (HL.out.later HB9.out)).mono ?_
        rintro e wc ⟨rfl, hBc⟩
        have HBc := Lib.hid (Below.next HBw9.out hBc)
        clear hBc HB9 HBw9 HSL
        have hb1 : (lb != lb) = false := by simp
        have hb2 : (le != le) = false := by simp
        go_wp2_with fail
        go_roundw
        case rel => exact ⟨k + 1, by omega, by go_num, HBc.out⟩
        case measure => simp [intOf]; omega
      · obtain rfl : k = len' := by omega
        go_wp2_with fail
        refine (Go.Proofs.Ytndijajaddkbhaa.example21 _).mono ?_
        rintro e wE ⟨rfl, hBE⟩
        have HBE := Lib.hid (Below.next HBr.out hBE)
        go_wp2_with fail
        go_ret
        exact ⟨rfl, HBE.out⟩
theorem grantLives_law (x : Int) (r1 r2 r3 r4 : Int) (a : Option Addr) (len cap : Nat) (L : List RV) (a' : Option Addr) (len' cap' : Nat) (G : List GV) (w : World) (h : (Lit.int .u8 x).wf = true) (hL : IsL w a len L) (hG : IsG w a' len' G) :
    Calls Try.prog 7 #[.int .u8 x, .agg #[.int .i64 r1, .int .i64 r2, .int .i64 r3, .int .i64 r4], .slice a len cap, .slice a' len' cap'] w fun e w' => e = .returned (.bool true) ∧ Below w.heap.size w w' := by
  obtain ⟨x8, rfl⟩ := u8_word h
  exact grantLives_any x8.toNat x8.isLt r1 r2 r3 r4 a len cap L a' len' cap' G w hL hG
end Go.Proofs.Ytndijajaddkbhaa.Re
