/- The walk of the law. -/
import Derived.Test.YtigofjamednfpaaForC
import Derived.Test.YtigofjamednfpaaRowCap
import Derived.IntWalk
import Derived.Test.YtigofjamednfpaaClosed
import Derived.Test.YtigofjamednfpaaCameG
import Derived.Deep.CutRange
namespace Go.Proofs.Ytigofjamednfpaa.Re
open Go.RowKit AM
attribute [local simp] DepA isB rsAt
theorem liveL_split (P : GV → Bool) (G : List GV) (c : Nat) (hc : c ≤ G.length) :
    (byL (liveL P G G.length)) = byL (liveL P (G.take c) (G.take c).length) ++ (byL (liveL P (G.drop c) (G.drop c).length)).map (· + (c : Int)) ∧
    toW (liveL P G G.length) = toW (liveL P (G.take c) (G.take c).length) ||| toW (liveL P (G.drop c) (G.drop c).length) := by
  have h1 : ∀ k, k ≤ c → liveL P (G.take c) k = liveL P G k := by
    intro k
    induction k with
    | zero => intro _; rfl
    | succ k ih =>
      intro hk
      rw [liveL, liveL, ih (by omega), List.getElem?_take_of_lt (by omega)]
  have h2 : ∀ k, c + k ≤ G.length → byL (liveL P G (c + k)) = byL (liveL P G c) ++ (byL (liveL P (G.drop c) k)).map (· + (c : Int)) ∧ toW (liveL P G (c + k)) = toW (liveL P G c) ||| toW (liveL P (G.drop c) k) := by
    intro k
    induction k with
    | zero => intro _; simp [liveL, byL, toW]
    | succ k ih =>
      intro hk
      obtain ⟨e1, e2⟩ := ih (by omega)
      have hg : (G.drop c)[k]? = G[c + k]? := by rw [List.getElem?_drop]
      have hk2 : c + k < G.length := by omega
      rw [← Nat.add_assoc, liveL, liveL, hg, List.getElem?_eq_getElem hk2]
      dsimp only
      cases hp : P G[c + k]
      · simpa using ⟨e1, e2⟩
      · simp only [if_true]
        rw [byL_snoc, byL_snoc, toW_snoc, toW_snoc, e1, e2]
        refine ⟨?_, by rw [BitVec.or_assoc]⟩
        simp
        omega
  obtain ⟨e1, e2⟩ := h2 (G.length - c) (by omega)
  rw [show c + (G.length - c) = G.length by omega] at e1 e2
  rw [List.length_take, List.length_drop, Nat.min_eq_left hc, h1 c (Nat.le_refl _)]
  exact ⟨e1, e2⟩
theorem byL_bd (P : GV → Bool) (G : List GV) : ∀ k, ∀ y ∈ byL (liveL P G k), 0 ≤ y ∧ y < (k : Int) := by
  intro k
  induction k with
  | zero => intro y hy; cases hy
  | succ k ih =>
    intro y hy
    rw [liveL] at hy
    unfold byL at hy ih
    rw [List.map_append, List.mem_append] at hy
    rcases hy with hy | hy
    · have := ih y hy; omega
    · split at hy
      · split at hy
        · simp at hy; omega
        · cases hy
      · cases hy
theorem gck_cut {G : List GV} (h : (gck 64 G).2 = 0) (c : Nat) : (gck 64 (G.take c)).2 = 0 ∧ (gck 64 (G.drop c)).2 = 0 := by
  obtain ⟨h1, h2⟩ := gck_good h
  have key : ∀ M : List GV, M.length ≤ 64 → (∀ j (hj : j < M.length), okG 64 M[j] = true) → (gck 64 M).2 = 0 := fun M hm hj => by
    rw [show (64 : Int) = ((64 : Nat) : Int) from rfl, gck_ok (n := 64) (len := M.length) (by decide) hm rfl hj]
  refine ⟨key _ (by rw [List.length_take]; omega) fun j hj => ?_, key _ (by rw [List.length_drop]; omega) fun j hj => ?_⟩
  · rw [List.getElem_take]; exact h2 j (by rw [List.length_take] at hj; omega)
  · rw [List.getElem_drop]; exact h2 (c + j) (by rw [List.length_drop] at hj; omega)
set_option maxRecDepth 100000 in
set_option maxHeartbeats 6400000 in
theorem grantUnites_any (fn : Nat) (hfn : fn < 256) (r1 r2 r3 r4 : Int) (a : Option Addr) (len cap : Nat) (L : List RV) (a' : Option Addr) (len' cap' : Nat) (G : List GV) (cut : Int) (hcap : len' ≤ cap') (w : World) (hL : IsL w a len L) (hG : IsG w a' len' G) :
    Calls Try.prog 9 #[.int .u8 (fn : Int), .agg #[.int .i64 r1, .int .i64 r2, .int .i64 r3, .int .i64 r4], .slice a len cap, .slice a' len' cap', .int .i64 cut] w fun e w' => e = .returned (.bool true) ∧ Below w.heap.size w w' := by
  have HL := Lib.hid hL
  have HLL := Lib.hid hL.1
  have HG := Lib.hid hG
  have HGL := Lib.hid hG.1
  clear hL hG
  have HF := Lib.hid (Four.start w r1 r2 r3 r4 23)
  have HB := Lib.hid (below_alloc w (.cells #[.int .i64 r1, .int .i64 r2, .int .i64 r3, .int .i64 r4] 23))
  go_enter Try.func9, Try.ntmps9
  go_wp2_with fail
  generalize w.alloc (.cells #[.int .i64 r1, .int .i64 r2, .int .i64 r3, .int .i64 r4] 23) = w0 at *
  refine (good21_any a len cap L a' len' cap' G _ (HL.out.later HB.out) (HG.out.later HB.out)).mono ?_
  rintro e w1 ⟨rfl, hB1⟩
  have HF1 := Lib.hid (HF.out.later hB1)
  have HB1 := Lib.hid (Below.next HB.out hB1)
  clear hB1 HF HB
  cases hok : okA21 L G
  · clear hok
    go_wp2_with fail
    go_ret
    exact ⟨rfl, HB1.out⟩
  · obtain ⟨hrc, hgc, hl20, hl30⟩ := okA21_iff.1 hok
    have hl : len ≤ 20 := by have := HLL.out; omega
    have hl' : len' ≤ 30 := by have := HGL.out; omega
    have HRC := Lib.hid hrc
    have HGC := Lib.hid hgc
    clear hok hrc hgc hl20 hl30
    obtain ⟨_, e1, e2, e3, e4⟩ := HF1.out
    go_wp2_with fail
    refine (srange_any r1 r2 r3 r4 _).mono ?_
    rintro e w2 ⟨rfl, hB2⟩
    have HF2 := Lib.hid (HF1.out.later hB2)
    have HB2 := Lib.hid (Below.next HB1.out hB2)
    clear hB2 HF1 HB1 e1 e2 e3 e4
    cases hck : ckB r1 r2 r3 r4
    · clear hck
      go_wp2_with fail
      go_ret
      exact ⟨rfl, HB2.out⟩
    · obtain ⟨m, hm⟩ : ∃ m : Nat, m = fn % 5 := ⟨_, rfl⟩
      have hm5 : m < 5 := by omega
      have HM : Hid ((fn : Int).tmod 5 = (m : Int)) := by unfold Hid; rw [Int.tmod_eq_emod_of_nonneg (by omega)]; omega
      obtain ⟨t, ht⟩ : ∃ t : Int, t = cut.tmod ((len' : Int) + 1) := ⟨_, rfl⟩
      have ht1 : -(len' : Int) ≤ t ∧ t ≤ (len' : Int) := by
        have h1 := Int.tmod_lt_of_pos cut (show 0 < (len' : Int) + 1 by omega)
        have h2 := Int.lt_tmod_of_pos cut (show 0 < (len' : Int) + 1 by omega)
        omega
      have HT0 : Hid (cut.tmod ((len' : Int) + 1) = t) := ht.symm
      obtain ⟨c, hc⟩ : ∃ c : Nat, (t + (len' : Int) + 1).tmod ((len' : Int) + 1) = (c : Int) := ⟨((t + (len' : Int) + 1).tmod ((len' : Int) + 1)).toNat, by have := Int.tmod_nonneg ((len' : Int) + 1) (show 0 ≤ t + (len' : Int) + 1 by omega); omega⟩
      have hc1 : c ≤ len' := by have := Int.tmod_lt_of_pos (t + (len' : Int) + 1) (show 0 < (len' : Int) + 1 by omega); omega
      have HT1 := Lib.hid hc
      clear hm ht hc
      have HCK := Lib.hid hck
      have hgE : gcE ⟨r1, r2, r3, r4⟩ L = 0 := gcE_zero.2 ⟨hck, HRC.out⟩
      have hfE : forE (46 + m) ⟨r1, r2, r3, r4⟩ L G = 0 := forE_ok hm5 hgE HGC.out
      have hfE1 : forE (46 + m) ⟨r1, r2, r3, r4⟩ L (G.take c) = 0 := forE_ok hm5 hgE (gck_cut HGC.out c).1
      have hfE2 : forE (46 + m) ⟨r1, r2, r3, r4⟩ L (G.drop c) = 0 := forE_ok hm5 hgE (gck_cut HGC.out c).2
      have HFE := Lib.hid hfE
      have HFE1 := Lib.hid hfE1
      have HFE2 := Lib.hid hfE2
      have HSP := Lib.hid (liveL_split (PG m ⟨r1, r2, r3, r4⟩ L) G c (by rw [HGL.out]; exact hc1))
      have HFL : Hid (∀ M : List GV, forE (46 + m) ⟨r1, r2, r3, r4⟩ L M = 0 → forL (46 + m) ⟨r1, r2, r3, r4⟩ L M = liveL (PG m ⟨r1, r2, r3, r4⟩ L) M M.length) := fun M h => by unfold forL; rw [if_pos h]; rfl
      have HL1 := Lib.hid (liveL_len (PG m ⟨r1, r2, r3, r4⟩ L))
      clear hck hgE hfE hfE1 hfE2 HRC HGC
      obtain ⟨_, e1, e2, e3, e4⟩ := HF2.out
      have hx1 := HM.out
      have hx2 := HT0.out
      have hx3 := HT1.out
      go_wp2_with fail
      clear hx1 hx2 hx3 e1 e2 e3 e4
      obtain ⟨ad, had⟩ : ∃ ad, (if cap' = c then a' else a'.map (·.add (c * 8))) = ad := ⟨_, rfl⟩
      have HIC : Hid (IsG w ad (len' - c) (G.drop c)) := by have := HG.out.cut (cap := cap') hc1 hcap; rwa [had] at this
      have HAD := Lib.hid had
      clear had
      have HXw2 : Hid (Below w2.heap.size w2 w2) := Below.refl _ _
      refine wp_region_seqi (fun X => Below w2.heap.size w2 X) (fun W W2 hB h => Below.next h hB) (by kernel_rfl) (by kernel_rfl) (by kernel_rfl) (Below.refl _ _).drew ?_
      simp only [putsL, Act.put, List.setIfInBounds_toArray, List.set_cons_zero, List.set_cons_succ, Nat.zero_add, Nat.reduceAdd]
      refine seqi_run ?_ (fun vs W hD => (by first | rfl | (simp at hD; simp [Region.wanted, yielded, hD]))) (fun vs W hS hD => ?_) ?_
      rotate_left
      · obtain _ := hS; (try simp at hD); (try simp only [hD]); (first | (go_simp; done) | (go_simp; rfl))
      simp only [List.nil_append]
      refine seqi_run ?_ (fun vs W hD => (by first | rfl | (simp at hD; simp [Region.wanted, yielded, hD]))) (fun vs W hS hD => ?_) ?_
      rotate_left
      · obtain ⟨_, c1, c2, c3, c4⟩ := HF2.out.later (Below.next HXw2.out hS); obtain _ := hS; (try simp at hD); (try simp only [hD]); (first | (go_simp; done) | (go_simp; rfl))
      simp only [List.nil_append, List.cons_append]
      refine seqi_run ?_ (fun vs W hD => (by first | rfl | (simp at hD; simp [Region.wanted, yielded, hD]))) (fun vs W hS hD => ?_) ?_
      rotate_left
      · obtain _ := hS; (try simp at hD); (try simp only [hD]); (first | (go_simp; done) | (go_simp; rfl))
      simp only [List.nil_append, List.cons_append]
      refine seqi_call (f := 11) (ListOf cells7 7 L) (listOf_stable _ _ _) (fun vs => #[.slice a len cap]) (fun vs W hD => (by first | rfl | (simp at hD; simp [Region.wanted, yielded, hD]))) (fun vs W hS hD => ?_) (fun vs W hS hD => ?_) ?_
      · obtain _ := hS; (try simp at hD); (try simp only [hD]); go_simp; done
      · exact (copyrules_any a len cap L (by omega) W (HL.out.later (Below.next (Below.next HB2.out HXw2.out) hS))).mono fun e W' ⟨⟨v, he, ho⟩, hB⟩ => ⟨⟨_, he, OwnOf.isOf cells7_len ho⟩, hB⟩
      simp only [List.nil_append, List.cons_append]
      refine seqi_run ?_ (fun vs W hD => (by first | rfl | (simp at hD; simp [Region.wanted, yielded, hD]))) (fun vs W hS hD => ?_) ?_
      rotate_left
      · obtain _ := hS; (try simp at hD); (try simp only [hD]); (first | (go_simp; done) | (go_simp; rfl))
      simp only [List.nil_append, List.cons_append]
      refine seqi_run ?_ (fun vs W hD => (by first | rfl | (simp at hD; simp [Region.wanted, yielded, hD]))) (fun vs W hS hD => ?_) ?_
      rotate_left
      · obtain _ := hS; (try simp at hD); (try simp only [hD]); (first | (go_simp; done) | (go_simp; rfl))
      simp only [List.nil_append, List.cons_append]
      refine seqi_run (.slice a' c cap') (fun vs W hD => (by first | rfl | (simp at hD; simp [Region.wanted, yielded, hD]))) (fun vs W hS hD => ?_) ?_
      · have q1 : c ≤ cap' := by omega
        (try simp at hD); (try simp only [hD]); go_simp; done
      simp only [List.nil_append, List.cons_append]
      refine seqi_call (f := 20) (ListOf cells8 8 (G.take c)) (listOf_stable _ _ _) (fun vs => #[.slice a' c cap']) (fun vs W hD => (by first | rfl | (simp at hD; simp [Region.wanted, yielded, hD]))) (fun vs W hS hD => ?_) (fun vs W hS hD => ?_) ?_
      · obtain _ := hS; (try simp at hD); (try simp only [hD]); go_simp; done
      · exact (copygrants_any _ _ _ (G.take c) (by omega) W (((HG.out.later (Below.next (Below.next HB2.out HXw2.out) hS))).take hc1)).mono fun e W' ⟨⟨v, he, ho⟩, hB⟩ => ⟨⟨_, he, OwnOf.isOf cells8_len ho⟩, hB⟩
      simp only [List.nil_append, List.cons_append]
      refine seqi_call (f := 29) (ForF (toW (forL (46 + m) ⟨r1, r2, r3, r4⟩ L (G.take c))) (byL (forL (46 + m) ⟨r1, r2, r3, r4⟩ L (G.take c)))) (forF_stable _ _) (fun vs => #[.int .u8 ((46 + m : Nat) : Int), .agg #[.int .i64 r1, .int .i64 r2, .int .i64 r3, .int .i64 r4], vs 3, vs 7]) (fun vs W hD => (by first | rfl | (simp at hD; simp [Region.wanted, yielded, hD]))) (fun vs W hS hD => ?_) (fun vs W hS hD => ?_) ?_
      · obtain _ := hS; (try simp at hD); (try simp only [hD]); go_simp; done
      · simp at hD; obtain ⟨_, _, ⟨x3, y3, e3, i3⟩, x5, y5, e5, i5⟩ := hD; rw [e3, e5]; exact (for_any (46 + m) (by omega) r1 r2 r3 r4 x3 _ y3 L x5 _ y5 (G.take c) W i3 (by simpa using i5) HFE1.out).mono fun e W' ⟨⟨v, he, ho⟩, hB⟩ => (by obtain ⟨x6, y6, rfl, i6⟩ := OwnOf.isOf cells1_len ho; exact ⟨⟨_, he, x6, y6, rfl, i6⟩, hB⟩)
      simp only [List.nil_append, List.cons_append]
      refine seqi_dep (ForF (toW (forL (46 + m) ⟨r1, r2, r3, r4⟩ L (G.take c))) (byL (forL (46 + m) ⟨r1, r2, r3, r4⟩ L (G.take c)))) (forF_stable _ _) (fun vs W hD => (by first | rfl | (simp at hD; simp [Region.wanted, yielded, hD]))) (fun vs W hS hD => ?_) ?_
      · simp at hD; refine ⟨vs 8, ?_, ?_⟩; (· (go_simp; done)); (first | exact hD | (repeat (first | exact hD.1 | replace hD := hD.2)); done)
      simp only [List.nil_append, List.cons_append]
      refine seqi_run (.int .u64 ((toW (forL (46 + m) ⟨r1, r2, r3, r4⟩ L (G.take c))).toNat : Int)) (fun vs W hD => (by first | rfl | (simp at hD; simp [Region.wanted, yielded, hD]))) (fun vs W hS hD => ?_) ?_
      · simp at hD; obtain ⟨x6, y6, e6, i6⟩ := hD; go_simp; done
      simp only [List.nil_append, List.cons_append]
      refine seqi_dep (ListOf cells1 1 (byL (forL (46 + m) ⟨r1, r2, r3, r4⟩ L (G.take c)))) (listOf_stable _ _ _) (fun vs W hD => (by first | rfl | (simp at hD; simp [Region.wanted, yielded, hD]))) (fun vs W hS hD => ?_) ?_
      · simp at hD; obtain ⟨x6, y6, e6, i6⟩ := hD; refine ⟨_, ?_, x6, y6, rfl, i6⟩; go_simp; done
      simp only [List.nil_append, List.cons_append]
      refine seqi_run (.int .i64 0) (fun vs W hD => (by first | rfl | (simp at hD; simp [Region.wanted, yielded, hD]))) (fun vs W hS hD => ?_) ?_
      · simp at hD; obtain ⟨x6, y6, e6, i6⟩ := hD; go_simp; done
      simp only [List.nil_append, List.cons_append]
      refine seqi_run ?_ (fun vs W hD => (by first | rfl | (simp at hD; simp [Region.wanted, yielded, hD]))) (fun vs W hS hD => ?_) ?_
      rotate_left
      · obtain _ := hS; (try simp at hD); (try simp only [hD]); (first | (go_simp; done) | (go_simp; rfl))
      simp only [List.nil_append, List.cons_append]
      refine seqi_dep (ListOf cells1 1 (byL (forL (46 + m) ⟨r1, r2, r3, r4⟩ L (G.take c)))) (listOf_stable _ _ _) (fun vs W hD => (by first | rfl | (simp at hD; simp [Region.wanted, yielded, hD]))) (fun vs W hS hD => ?_) ?_
      · simp at hD; refine ⟨vs 11, ?_, ?_⟩; (· (go_simp; done)); (first | exact hD | (repeat (first | exact hD.1 | replace hD := hD.2)); done)
      simp only [List.nil_append, List.cons_append]
      refine seqi_run ?_ (fun vs W hD => (by first | rfl | (simp at hD; simp [Region.wanted, yielded, hD]))) (fun vs W hS hD => ?_) ?_
      rotate_left
      · obtain _ := hS; (try simp at hD); (try simp only [hD]); (first | (go_simp; done) | (go_simp; rfl))
      simp only [List.nil_append, List.cons_append]
      refine seqi_end fun vs W hS hv => ?_
      simp only [AllF, Nat.zero_add, Nat.reduceAdd] at hv
      obtain ⟨h0, h1, h2, h3, h4, h5, h6, h7, h8, h9, h10, h11, h12, h13, h14, h15, _⟩ := hv
      have HXw5 : Hid (Below w2.heap.size w2 W) := Below.next HXw2.out hS
      have hszw5 := hS.size
      have HSw5 := Lib.hid hS
      clear hS
      generalize W = w5 at *
      obtain ⟨xw5, yw5, ez, iz⟩ := h14
      obtain ⟨xxw5, yyw5, ey, iy⟩ := h11
      have HIw5 := Lib.hid iz
      simp only [h0, h1, h2, h4, h5, h6, h10, h12, h13, h15, ez, ey]
      clear iz iy ez ey h0 h1 h2 h3 h4 h5 h6 h7 h8 h9 h10 h12 h13 h15
      rw [HFL.out _ HFE1.out] at HIw5 ⊢
      go_wp2_with fail
      refine wp_region_seqi (fun X => Below w5.heap.size w5 X) (fun W W2 hB h => Below.next h hB) (by kernel_rfl) (by kernel_rfl) (by kernel_rfl) (Below.refl _ _).drew ?_
      simp only [putsL, Act.put, List.setIfInBounds_toArray, List.set_cons_zero, List.set_cons_succ, Nat.zero_add, Nat.reduceAdd]
      refine seqi_run ?_ (fun vs W hD => (by first | rfl | (simp at hD; simp [Region.wanted, yielded, hD]))) (fun vs W hS hD => ?_) ?_
      rotate_left
      · obtain _ := hS; (try simp at hD); (try simp only [hD]); (first | (go_simp; done) | (go_simp; rfl))
      simp only [List.nil_append]
      refine seqi_run ?_ (fun vs W hD => (by first | rfl | (simp at hD; simp [Region.wanted, yielded, hD]))) (fun vs W hS hD => ?_) ?_
      rotate_left
      · obtain ⟨_, c1, c2, c3, c4⟩ := HF2.out.later (Below.next HXw5.out hS); obtain _ := hS; (try simp at hD); (try simp only [hD]); (first | (go_simp; done) | (go_simp; rfl))
      simp only [List.nil_append, List.cons_append]
      refine seqi_run ?_ (fun vs W hD => (by first | rfl | (simp at hD; simp [Region.wanted, yielded, hD]))) (fun vs W hS hD => ?_) ?_
      rotate_left
      · obtain _ := hS; (try simp at hD); (try simp only [hD]); (first | (go_simp; done) | (go_simp; rfl))
      simp only [List.nil_append, List.cons_append]
      refine seqi_call (f := 11) (ListOf cells7 7 L) (listOf_stable _ _ _) (fun vs => #[.slice a len cap]) (fun vs W hD => (by first | rfl | (simp at hD; simp [Region.wanted, yielded, hD]))) (fun vs W hS hD => ?_) (fun vs W hS hD => ?_) ?_
      · obtain _ := hS; (try simp at hD); (try simp only [hD]); go_simp; done
      · exact (copyrules_any a len cap L (by omega) W (HL.out.later (Below.next (Below.next HB2.out HXw5.out) hS))).mono fun e W' ⟨⟨v, he, ho⟩, hB⟩ => ⟨⟨_, he, OwnOf.isOf cells7_len ho⟩, hB⟩
      simp only [List.nil_append, List.cons_append]
      refine seqi_run ?_ (fun vs W hD => (by first | rfl | (simp at hD; simp [Region.wanted, yielded, hD]))) (fun vs W hS hD => ?_) ?_
      rotate_left
      · obtain _ := hS; (try simp at hD); (try simp only [hD]); (first | (go_simp; done) | (go_simp; rfl))
      simp only [List.nil_append, List.cons_append]
      refine seqi_run ?_ (fun vs W hD => (by first | rfl | (simp at hD; simp [Region.wanted, yielded, hD]))) (fun vs W hS hD => ?_) ?_
      rotate_left
      · obtain _ := hS; (try simp at hD); (try simp only [hD]); (first | (go_simp; done) | (go_simp; rfl))
      simp only [List.nil_append, List.cons_append]
      refine seqi_run (.slice ad (len' - c) (cap' - c)) (fun vs W hD => (by first | rfl | (simp at hD; simp [Region.wanted, yielded, hD]))) (fun vs W hS hD => ?_) ?_
      · have q1 : c ≤ len' := hc1
        rw [← HAD.out]; (try simp at hD); (try simp only [hD]); go_simp; done
      simp only [List.nil_append, List.cons_append]
      refine seqi_call (f := 20) (ListOf cells8 8 (G.drop c)) (listOf_stable _ _ _) (fun vs => #[.slice ad (len' - c) (cap' - c)]) (fun vs W hD => (by first | rfl | (simp at hD; simp [Region.wanted, yielded, hD]))) (fun vs W hS hD => ?_) (fun vs W hS hD => ?_) ?_
      · obtain _ := hS; (try simp at hD); (try simp only [hD]); go_simp; done
      · exact (copygrants_any _ _ _ (G.drop c) (by omega) W (HIC.out.later (Below.next (Below.next HB2.out HXw5.out) hS))).mono fun e W' ⟨⟨v, he, ho⟩, hB⟩ => ⟨⟨_, he, OwnOf.isOf cells8_len ho⟩, hB⟩
      simp only [List.nil_append, List.cons_append]
      refine seqi_call (f := 29) (ForF (toW (forL (46 + m) ⟨r1, r2, r3, r4⟩ L (G.drop c))) (byL (forL (46 + m) ⟨r1, r2, r3, r4⟩ L (G.drop c)))) (forF_stable _ _) (fun vs => #[.int .u8 ((46 + m : Nat) : Int), .agg #[.int .i64 r1, .int .i64 r2, .int .i64 r3, .int .i64 r4], vs 3, vs 7]) (fun vs W hD => (by first | rfl | (simp at hD; simp [Region.wanted, yielded, hD]))) (fun vs W hS hD => ?_) (fun vs W hS hD => ?_) ?_
      · obtain _ := hS; (try simp at hD); (try simp only [hD]); go_simp; done
      · simp at hD; obtain ⟨_, _, ⟨x3, y3, e3, i3⟩, x5, y5, e5, i5⟩ := hD; rw [e3, e5]; exact (for_any (46 + m) (by omega) r1 r2 r3 r4 x3 _ y3 L x5 _ y5 (G.drop c) W i3 (by simpa using i5) HFE2.out).mono fun e W' ⟨⟨v, he, ho⟩, hB⟩ => (by obtain ⟨x6, y6, rfl, i6⟩ := OwnOf.isOf cells1_len ho; exact ⟨⟨_, he, x6, y6, rfl, i6⟩, hB⟩)
      simp only [List.nil_append, List.cons_append]
      refine seqi_dep (ForF (toW (forL (46 + m) ⟨r1, r2, r3, r4⟩ L (G.drop c))) (byL (forL (46 + m) ⟨r1, r2, r3, r4⟩ L (G.drop c)))) (forF_stable _ _) (fun vs W hD => (by first | rfl | (simp at hD; simp [Region.wanted, yielded, hD]))) (fun vs W hS hD => ?_) ?_
      · simp at hD; refine ⟨vs 8, ?_, ?_⟩; (· (go_simp; done)); (first | exact hD | (repeat (first | exact hD.1 | replace hD := hD.2)); done)
      simp only [List.nil_append, List.cons_append]
      refine seqi_run (.int .u64 ((toW (forL (46 + m) ⟨r1, r2, r3, r4⟩ L (G.drop c))).toNat : Int)) (fun vs W hD => (by first | rfl | (simp at hD; simp [Region.wanted, yielded, hD]))) (fun vs W hS hD => ?_) ?_
      · simp at hD; obtain ⟨x6, y6, e6, i6⟩ := hD; go_simp; done
      simp only [List.nil_append, List.cons_append]
      refine seqi_dep (ListOf cells1 1 (byL (forL (46 + m) ⟨r1, r2, r3, r4⟩ L (G.drop c)))) (listOf_stable _ _ _) (fun vs W hD => (by first | rfl | (simp at hD; simp [Region.wanted, yielded, hD]))) (fun vs W hS hD => ?_) ?_
      · simp at hD; obtain ⟨x6, y6, e6, i6⟩ := hD; refine ⟨_, ?_, x6, y6, rfl, i6⟩; go_simp; done
      simp only [List.nil_append, List.cons_append]
      refine seqi_run (.int .i64 0) (fun vs W hD => (by first | rfl | (simp at hD; simp [Region.wanted, yielded, hD]))) (fun vs W hS hD => ?_) ?_
      · simp at hD; obtain ⟨x6, y6, e6, i6⟩ := hD; go_simp; done
      simp only [List.nil_append, List.cons_append]
      refine seqi_run ?_ (fun vs W hD => (by first | rfl | (simp at hD; simp [Region.wanted, yielded, hD]))) (fun vs W hS hD => ?_) ?_
      rotate_left
      · obtain _ := hS; (try simp at hD); (try simp only [hD]); (first | (go_simp; done) | (go_simp; rfl))
      simp only [List.nil_append, List.cons_append]
      refine seqi_dep (ListOf cells1 1 (byL (forL (46 + m) ⟨r1, r2, r3, r4⟩ L (G.drop c)))) (listOf_stable _ _ _) (fun vs W hD => (by first | rfl | (simp at hD; simp [Region.wanted, yielded, hD]))) (fun vs W hS hD => ?_) ?_
      · simp at hD; refine ⟨vs 11, ?_, ?_⟩; (· (go_simp; done)); (first | exact hD | (repeat (first | exact hD.1 | replace hD := hD.2)); done)
      simp only [List.nil_append, List.cons_append]
      refine seqi_run ?_ (fun vs W hD => (by first | rfl | (simp at hD; simp [Region.wanted, yielded, hD]))) (fun vs W hS hD => ?_) ?_
      rotate_left
      · obtain _ := hS; (try simp at hD); (try simp only [hD]); (first | (go_simp; done) | (go_simp; rfl))
      simp only [List.nil_append, List.cons_append]
      refine seqi_end fun vs W hS hv => ?_
      simp only [AllF, Nat.zero_add, Nat.reduceAdd] at hv
      obtain ⟨h0, h1, h2, h3, h4, h5, h6, h7, h8, h9, h10, h11, h12, h13, h14, h15, _⟩ := hv
      have HXw6 : Hid (Below w2.heap.size w2 W) := Below.next HXw5.out hS
      have hszw6 := hS.size
      have HSw6 := Lib.hid hS
      clear hS
      generalize W = w6 at *
      obtain ⟨xw6, yw6, ez, iz⟩ := h14
      obtain ⟨xxw6, yyw6, ey, iy⟩ := h11
      have HIw6 := Lib.hid iz
      simp only [h0, h1, h2, h4, h5, h6, h10, h12, h13, h15, ez, ey]
      clear iz iy ez ey h0 h1 h2 h3 h4 h5 h6 h7 h8 h9 h10 h12 h13 h15
      rw [HFL.out _ HFE2.out] at HIw6 ⊢
      go_wp2_with fail
      refine wp_region_seqi (fun X => Below w6.heap.size w6 X) (fun W W2 hB h => Below.next h hB) (by kernel_rfl) (by kernel_rfl) (by kernel_rfl) (Below.refl _ _).drew ?_
      simp only [putsL, Act.put, List.setIfInBounds_toArray, List.set_cons_zero, List.set_cons_succ, Nat.zero_add, Nat.reduceAdd]
      refine seqi_run ?_ (fun vs W hD => (by first | rfl | (simp at hD; simp [Region.wanted, yielded, hD]))) (fun vs W hS hD => ?_) ?_
      rotate_left
      · obtain _ := hS; (try simp at hD); (try simp only [hD]); (first | (go_simp; done) | (go_simp; rfl))
      simp only [List.nil_append]
      refine seqi_run ?_ (fun vs W hD => (by first | rfl | (simp at hD; simp [Region.wanted, yielded, hD]))) (fun vs W hS hD => ?_) ?_
      rotate_left
      · obtain ⟨_, c1, c2, c3, c4⟩ := HF2.out.later (Below.next HXw6.out hS); obtain _ := hS; (try simp at hD); (try simp only [hD]); (first | (go_simp; done) | (go_simp; rfl))
      simp only [List.nil_append, List.cons_append]
      refine seqi_run ?_ (fun vs W hD => (by first | rfl | (simp at hD; simp [Region.wanted, yielded, hD]))) (fun vs W hS hD => ?_) ?_
      rotate_left
      · obtain _ := hS; (try simp at hD); (try simp only [hD]); (first | (go_simp; done) | (go_simp; rfl))
      simp only [List.nil_append, List.cons_append]
      refine seqi_call (f := 11) (ListOf cells7 7 L) (listOf_stable _ _ _) (fun vs => #[.slice a len cap]) (fun vs W hD => (by first | rfl | (simp at hD; simp [Region.wanted, yielded, hD]))) (fun vs W hS hD => ?_) (fun vs W hS hD => ?_) ?_
      · obtain _ := hS; (try simp at hD); (try simp only [hD]); go_simp; done
      · exact (copyrules_any a len cap L (by omega) W (HL.out.later (Below.next (Below.next HB2.out HXw6.out) hS))).mono fun e W' ⟨⟨v, he, ho⟩, hB⟩ => ⟨⟨_, he, OwnOf.isOf cells7_len ho⟩, hB⟩
      simp only [List.nil_append, List.cons_append]
      refine seqi_run ?_ (fun vs W hD => (by first | rfl | (simp at hD; simp [Region.wanted, yielded, hD]))) (fun vs W hS hD => ?_) ?_
      rotate_left
      · obtain _ := hS; (try simp at hD); (try simp only [hD]); (first | (go_simp; done) | (go_simp; rfl))
      simp only [List.nil_append, List.cons_append]
      refine seqi_call (f := 20) (ListOf cells8 8 G) (listOf_stable _ _ _) (fun vs => #[.slice a' len' cap']) (fun vs W hD => (by first | rfl | (simp at hD; simp [Region.wanted, yielded, hD]))) (fun vs W hS hD => ?_) (fun vs W hS hD => ?_) ?_
      · obtain _ := hS; (try simp at hD); (try simp only [hD]); go_simp; done
      · exact (copygrants_any _ _ _ G (by omega) W (((HG.out.later (Below.next (Below.next HB2.out HXw6.out) hS))))).mono fun e W' ⟨⟨v, he, ho⟩, hB⟩ => ⟨⟨_, he, OwnOf.isOf cells8_len ho⟩, hB⟩
      simp only [List.nil_append, List.cons_append]
      refine seqi_call (f := 29) (ForF (toW (forL (46 + m) ⟨r1, r2, r3, r4⟩ L G)) (byL (forL (46 + m) ⟨r1, r2, r3, r4⟩ L G))) (forF_stable _ _) (fun vs => #[.int .u8 ((46 + m : Nat) : Int), .agg #[.int .i64 r1, .int .i64 r2, .int .i64 r3, .int .i64 r4], vs 3, vs 5]) (fun vs W hD => (by first | rfl | (simp at hD; simp [Region.wanted, yielded, hD]))) (fun vs W hS hD => ?_) (fun vs W hS hD => ?_) ?_
      · obtain _ := hS; (try simp at hD); (try simp only [hD]); go_simp; done
      · simp at hD; obtain ⟨_, _, ⟨x3, y3, e3, i3⟩, x5, y5, e5, i5⟩ := hD; rw [e3, e5]; exact (for_any (46 + m) (by omega) r1 r2 r3 r4 x3 _ y3 L x5 _ y5 G W i3 i5 HFE.out).mono fun e W' ⟨⟨v, he, ho⟩, hB⟩ => (by obtain ⟨x6, y6, rfl, i6⟩ := OwnOf.isOf cells1_len ho; exact ⟨⟨_, he, x6, y6, rfl, i6⟩, hB⟩)
      simp only [List.nil_append, List.cons_append]
      refine seqi_dep (ForF (toW (forL (46 + m) ⟨r1, r2, r3, r4⟩ L G)) (byL (forL (46 + m) ⟨r1, r2, r3, r4⟩ L G))) (forF_stable _ _) (fun vs W hD => (by first | rfl | (simp at hD; simp [Region.wanted, yielded, hD]))) (fun vs W hS hD => ?_) ?_
      · simp at hD; refine ⟨vs 6, ?_, ?_⟩; (· (go_simp; done)); (first | exact hD | (repeat (first | exact hD.1 | replace hD := hD.2)); done)
      simp only [List.nil_append, List.cons_append]
      refine seqi_run (.int .u64 ((toW (forL (46 + m) ⟨r1, r2, r3, r4⟩ L G)).toNat : Int)) (fun vs W hD => (by first | rfl | (simp at hD; simp [Region.wanted, yielded, hD]))) (fun vs W hS hD => ?_) ?_
      · simp at hD; obtain ⟨x6, y6, e6, i6⟩ := hD; go_simp; done
      simp only [List.nil_append, List.cons_append]
      refine seqi_dep (ListOf cells1 1 (byL (forL (46 + m) ⟨r1, r2, r3, r4⟩ L G))) (listOf_stable _ _ _) (fun vs W hD => (by first | rfl | (simp at hD; simp [Region.wanted, yielded, hD]))) (fun vs W hS hD => ?_) ?_
      · simp at hD; obtain ⟨x6, y6, e6, i6⟩ := hD; refine ⟨_, ?_, x6, y6, rfl, i6⟩; go_simp; done
      simp only [List.nil_append, List.cons_append]
      refine seqi_run (.int .i64 0) (fun vs W hD => (by first | rfl | (simp at hD; simp [Region.wanted, yielded, hD]))) (fun vs W hS hD => ?_) ?_
      · simp at hD; obtain ⟨x6, y6, e6, i6⟩ := hD; go_simp; done
      simp only [List.nil_append, List.cons_append]
      refine seqi_run ?_ (fun vs W hD => (by first | rfl | (simp at hD; simp [Region.wanted, yielded, hD]))) (fun vs W hS hD => ?_) ?_
      rotate_left
      · obtain _ := hS; (try simp at hD); (try simp only [hD]); (first | (go_simp; done) | (go_simp; rfl))
      simp only [List.nil_append, List.cons_append]
      refine seqi_dep (ListOf cells1 1 (byL (forL (46 + m) ⟨r1, r2, r3, r4⟩ L G))) (listOf_stable _ _ _) (fun vs W hD => (by first | rfl | (simp at hD; simp [Region.wanted, yielded, hD]))) (fun vs W hS hD => ?_) ?_
      · simp at hD; refine ⟨vs 9, ?_, ?_⟩; (· (go_simp; done)); (first | exact hD | (repeat (first | exact hD.1 | replace hD := hD.2)); done)
      simp only [List.nil_append, List.cons_append]
      refine seqi_run ?_ (fun vs W hD => (by first | rfl | (simp at hD; simp [Region.wanted, yielded, hD]))) (fun vs W hS hD => ?_) ?_
      rotate_left
      · obtain _ := hS; (try simp at hD); (try simp only [hD]); (first | (go_simp; done) | (go_simp; rfl))
      simp only [List.nil_append, List.cons_append]
      refine seqi_end fun vs W hS hv => ?_
      simp only [AllF, Nat.zero_add, Nat.reduceAdd] at hv
      obtain ⟨h0, h1, h2, h3, h4, h5, h6, h7, h8, h9, h10, h11, h12, h13, _⟩ := hv
      have HXw7 : Hid (Below w2.heap.size w2 W) := Below.next HXw6.out hS
      have hszw7 := hS.size
      have HSw7 := Lib.hid hS
      clear hS
      generalize W = w7 at *
      obtain ⟨xw7, yw7, ez, iz⟩ := h12
      obtain ⟨xxw7, yyw7, ey, iy⟩ := h9
      have HIw7 := Lib.hid iz
      simp only [h0, h1, h2, h4, h8, h10, h11, h13, ez, ey]
      clear iz iy ez ey h0 h1 h2 h3 h4 h5 h6 h7 h8 h10 h11 h13
      rw [HFL.out _ HFE.out] at HIw7 ⊢
      obtain ⟨hs1, hs2⟩ := HSP.out
      have hyb := byL_bd (PG m ⟨r1, r2, r3, r4⟩ L) (G.drop c) (G.drop c).length
      have hn1 := HL1.out (G.take c) (G.take c).length
      have hn2 := HL1.out (G.drop c) (G.drop c).length
      have hn0 := HL1.out G G.length
      rw [← byL_len] at hn0 hn1 hn2
      have hg0 := HGL.out
      have hgt : (G.take c).length ≤ 30 := by rw [List.length_take]; omega
      have hgd : (G.drop c).length ≤ 30 := by rw [List.length_drop]; omega
      have HOR := Lib.hid (bits_or (toW (liveL (PG m ⟨r1, r2, r3, r4⟩ L) (G.take c) (G.take c).length)) (toW (liveL (PG m ⟨r1, r2, r3, r4⟩ L) (G.drop c) (G.drop c).length)))
      rw [← hs2] at HOR
      clear hs2 HSP HL1 HFL HFE HFE1 HFE2
      generalize toW (liveL (PG m ⟨r1, r2, r3, r4⟩ L) (G.take c) (G.take c).length) = T1 at *
      generalize toW (liveL (PG m ⟨r1, r2, r3, r4⟩ L) (G.drop c) (G.drop c).length) = T2 at *
      generalize toW (liveL (PG m ⟨r1, r2, r3, r4⟩ L) G G.length) = T0 at *
      generalize byL (liveL (PG m ⟨r1, r2, r3, r4⟩ L) (G.take c) (G.take c).length) = X at *
      generalize byL (liveL (PG m ⟨r1, r2, r3, r4⟩ L) (G.drop c) (G.drop c).length) = Y at *
      generalize byL (liveL (PG m ⟨r1, r2, r3, r4⟩ L) G G.length) = Z at *
      have hx30 : X.length ≤ 30 := by omega
      have hy30 : Y.length ≤ 30 := by omega
      have hlz : Z.length = X.length + Y.length := by rw [hs1, List.length_append, List.length_map]
      have HZ : Hid (∀ i (h : i < Y.length), Z[X.length + i]? = some (Y[i] + (c : Int))) := fun i h => by rw [hs1, List.getElem?_append_right (by omega)]; simp [h]
      have HLZ := Lib.hid hlz
      have HYB : Hid (∀ i (h : i < Y.length), 0 ≤ Y[i] ∧ Y[i] < 31) := fun i h => by have := hyb _ (List.getElem_mem h); omega
      rw [HLZ.out]
      have hor := HOR.out
      clear hyb hs1 hn0 hn1 hn2 hg0 hgt hgd hlz
      go_wp2_with fail
      clear hor
      go_loopw [20] (fun i wr => ∃ k : Nat, k ≤ Y.length ∧ i = .int .i64 (k : Int) ∧ Below w7.heap.size w7 wr) (fun i _ => Y.length - (intOf i).toNat)
      case atStart => exact ⟨0, Nat.zero_le _, rfl, Below.refl _ _⟩
      case round =>
        obtain ⟨k, hk, rfl, hBr⟩ := hrel
        have HBr := Lib.hid hBr
        clear hBr
        by_cases hlt : k < Y.length
        · have hkz : X.length + k < Z.length := by have := HLZ.out; omega
          obtain ⟨b, off, hab, hr⟩ := (HIw7.out.later HBr.out).2 (by omega)
          obtain ⟨b2, off2, hab2, hr2⟩ := ((HIw6.out.later HSw7.out).later HBr.out).2 (by omega)
          subst hab
          subst hab2
          have hz := HZ.out k hlt
          rw [List.getElem?_eq_getElem hkz] at hz
          have c1 := RowOf.one_ hr (X.length + k) hkz
          have d1 := RowOf.one_ hr2 k hlt
          rw [Option.some.inj hz] at c1
          obtain ⟨hy1, hy2⟩ := HYB.out k hlt
          clear hr hr2 hz
          generalize Y[k] = y at *
          go_wp2_with fail
          have q1 : IntKind.i64.wrap ((X.length : Int) + (k : Int)) = (X.length : Int) + (k : Int) := IntWalk.i64_in _ (by omega)
          have q2 : (0 : Int) ≤ (X.length : Int) + (k : Int) := by omega
          have q3 : ((X.length : Int) + (k : Int)).toNat = X.length + k := by omega
          have q4 : IntKind.i64.wrap (y + (c : Int)) = y + (c : Int) := IntWalk.i64_in _ (by omega)
          go_quiet (fail)
          clear q1 q2 q3 q4
          go_wp2_with fail
          go_roundw
          case rel => exact ⟨k + 1, by omega, by go_num, ⟨HBr.out.os, HBr.out.tape, HBr.out.output, HBr.out.size, HBr.out.block⟩⟩
          case measure => simp [intOf]; omega
        · obtain rfl : k = Y.length := by omega
          go_wp2_with fail
          refine (Go.Proofs.Ytigofjamednfpaa.example21 _).mono ?_
          rintro e wE ⟨rfl, hBE⟩
          have HBE := Lib.hid (Below.next (Below.next (Below.next HB2.out HXw7.out) HBr.out) hBE)
          go_wp2_with fail
          go_ret
          exact ⟨rfl, HBE.out⟩
theorem grantUnites_law (fn : Int) (r1 r2 r3 r4 : Int) (a : Option Addr) (len cap : Nat) (L : List RV) (a' : Option Addr) (len' cap' : Nat) (G : List GV) (cut : Int) (w : World) (h0 : (Lit.int .u8 fn).wf = true) (hL : IsL w a len L) (hG : IsG w a' len' G) (hq : len' ≤ cap') :
    Calls Try.prog 9 #[.int .u8 fn, .agg #[.int .i64 r1, .int .i64 r2, .int .i64 r3, .int .i64 r4], .slice a len cap, .slice a' len' cap', .int .i64 cut] w fun e w' => e = .returned (.bool true) ∧ Below w.heap.size w w' := by
  obtain ⟨f8, rfl⟩ := u8_word h0
  exact grantUnites_any f8.toNat f8.isLt r1 r2 r3 r4 a len cap L a' len' cap' G cut hq w hL hG
end Go.Proofs.Ytigofjamednfpaa.Re
