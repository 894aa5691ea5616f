/- The contract of region.Differ. -/
import Derived.Test.YthgnhdfppmoooaaDifR
import Derived.Test.YthgnhdfppmoooaaMprt
namespace Go.Proofs.Ythgnhdfppmoooaa.Re
open Go.RowKit AM
set_option linter.unusedVariables false
set_option linter.unusedSimpArgs false
theorem zero5 : (Value.agg #[.int .i64 0, .int .i64 0, .int .i64 0, .int .i64 0, .int .i64 0]).cells.size = 5 := rfl
set_option maxRecDepth 100000 in
set_option maxHeartbeats 12800000 in
theorem pdiffer_any (r1 r2 r3 r4 : Int) (aa ab : Option Addr) (la ca lb cb : Nat) (A B : List RV) (hla : la ≤ 100000) (hlb : lb ≤ 100000) (w : World) (hA : IsL w aa la A) (hB : IsL w ab lb B) :
    Calls Try.prog 5 #[.agg #[.int .i64 r1, .int .i64 r2, .int .i64 r3, .int .i64 r4], .slice aa la ca, .slice ab lb cb] w fun e w' => (∃ u, e = .returned (.tuple #[u, .int .i64 (twoE (gcE ⟨r1, r2, r3, r4⟩ A) (gcE ⟨r1, r2, r3, r4⟩ B))]) ∧
      (gcE ⟨r1, r2, r3, r4⟩ A = 0 → gcE ⟨r1, r2, r3, r4⟩ B = 0 → ∃ D, Sorts (difL A B gRd ⟨r1, r2, r3, r4⟩) D ∧ OwnR w.heap.size w' u (rects D)) ∧ (¬ twoE (gcE ⟨r1, r2, r3, r4⟩ A) (gcE ⟨r1, r2, r3, r4⟩ B) = 0 → u = .slice none 0 0)) ∧ Below w.heap.size w w' := by
  obtain ⟨gA, hgA⟩ : ∃ g, gcE ⟨r1, r2, r3, r4⟩ A = g := ⟨_, rfl⟩
  obtain ⟨gB, hgB⟩ : ∃ g, gcE ⟨r1, r2, r3, r4⟩ B = g := ⟨_, rfl⟩
  obtain ⟨D0, hD0⟩ : ∃ D0, difL A B gRd ⟨r1, r2, r3, r4⟩ = D0 := ⟨_, rfl⟩
  rw [hgA, hgB, hD0]
  have HGA := Lib.hid hgA
  have HGB := Lib.hid hgB
  have HD0 := Lib.hid hD0
  clear hgA hgB hD0
  obtain ⟨gE, hgE⟩ : ∃ g, twoE gA gB = g := ⟨_, rfl⟩
  rw [hgE]
  have HGE := Lib.hid hgE
  clear hgE
  have HLA := Lib.hid hA
  have HLB := Lib.hid hB
  have HNA := Lib.hid hA.1
  have HNB := Lib.hid hB.1
  clear hA hB
  have l1 := below_alloc w (.cells #[.int .i64 r1, .int .i64 r2, .int .i64 r3, .int .i64 r4] 23)
  have l2 := below_alloc (w.alloc (.cells #[.int .i64 r1, .int .i64 r2, .int .i64 r3, .int .i64 r4] 23)) (.cells #[.slice aa la ca, .slice ab lb cb] 24)
  have HF := Lib.hid ((Four.start w r1 r2 r3 r4 23).later l2)
  have HB0 := Lib.hid (Below.next l1 l2)
  have HT0 : Hid (Two2 ((w.alloc (.cells #[.int .i64 r1, .int .i64 r2, .int .i64 r3, .int .i64 r4] 23)).alloc (.cells #[.slice aa la ca, .slice ab lb cb] 24)) (w.heap.size + 1) (.slice aa la ca) (.slice ab lb cb)) := by
    have h := Two2.start (w.alloc (.cells #[.int .i64 r1, .int .i64 r2, .int .i64 r3, .int .i64 r4] 23)) (.slice aa la ca) (.slice ab lb cb) 24
    rwa [World.size_alloc] at h
  clear l1 l2
  go_enter Try.func5, Try.ntmps5
  go_wp2_with fail
  generalize (w.alloc (.cells #[.int .i64 r1, .int .i64 r2, .int .i64 r3, .int .i64 r4] 23)).alloc (.cells #[.slice aa la ca, .slice ab lb cb] 24) = w0 at *
  go_loopw [23] (fun i wr => ∃ k : Nat, k ≤ 2 ∧ i = .int .i64 (k : Int) ∧ Hid (1 ≤ k → gA = 0) ∧ Hid (2 ≤ k → gB = 0) ∧ Hid (Below w.heap.size w wr) ∧ Hid (Four wr w.heap.size r1 r2 r3 r4) ∧ Hid (Two2 wr (w.heap.size + 1) (.slice aa la ca) (.slice ab lb cb))) (fun i _ => 2 - (intOf i).toNat)
  case atStart => exact ⟨0, by omega, rfl, (fun h => by omega), (fun h => by omega), HB0.out, HF.out, HT0.out⟩
  case round =>
    obtain ⟨k, hk, rfl, HK1, HK2, HB, HFr, HT⟩ := hrel
    clear HB0 HF HT0
    obtain ⟨_, e1, e2, e3, e4⟩ := HFr.out
    obtain ⟨_, t1, t2⟩ := HT.out
    by_cases hk0 : k = 0
    · subst hk0
      go_wp2_with fail
      refine (gcheck_any r1 r2 r3 r4 aa la ca A hla _ (HLA.out.later HB.out)).mono ?_
      rintro e w1 ⟨he, hB1⟩
      rw [HGA.out] at he
      subst he
      have HB1 := Lib.hid (Below.next HB.out hB1)
      have HF1 := Lib.hid (HFr.out.later hB1)
      have HT1 := Lib.hid (HT.out.later hB1)
      clear hB1 HB HFr HT e1 e2 e3 e4 t1 t2
      by_cases hz : gA = 0
      · subst hz
        go_wp2_with fail
        exact ⟨⟨1, by omega, rfl, (fun _ => by first | rfl | trivial), (fun h => by omega), HB1.out, HF1.out, HT1.out⟩, by decide⟩
      · have hz1 : (gA != 0) = true := by simpa using hz
        have hz2 : (gA == 0) = false := by simpa using hz
        have HE : Hid (gE = gA) := by rw [← HGE.out]; unfold Hid twoE; rw [if_neg hz]
        have HZ := Lib.hid hz
        clear hz
        go_wp2_with fail
        go_ret2
        exact ⟨⟨_, (by rw [HE.out]; rfl), fun h => absurd h HZ.out, fun _ => rfl⟩, HB1.out⟩
    by_cases hk1 : k = 1
    · subst hk1
      have ha0 : gA = 0 := HK1.out (by omega)
      subst ha0
      go_wp2_with fail
      refine (gcheck_any r1 r2 r3 r4 ab lb cb B hlb _ (HLB.out.later HB.out)).mono ?_
      rintro e w1 ⟨he, hB1⟩
      rw [HGB.out] at he
      subst he
      have HB1 := Lib.hid (Below.next HB.out hB1)
      have HF1 := Lib.hid (HFr.out.later hB1)
      have HT1 := Lib.hid (HT.out.later hB1)
      clear hB1 HB HFr HT e1 e2 e3 e4 t1 t2
      by_cases hz : gB = 0
      · subst hz
        go_wp2_with fail
        exact ⟨⟨2, by omega, rfl, (fun _ => by first | rfl | trivial), (fun _ => by first | rfl | trivial), HB1.out, HF1.out, HT1.out⟩, by decide⟩
      · have hz1 : (gB != 0) = true := by simpa using hz
        have hz2 : (gB == 0) = false := by simpa using hz
        have HE : Hid (gE = gB) := by rw [← HGE.out]; unfold Hid twoE; rw [if_pos rfl]
        have HZ := Lib.hid hz
        clear hz
        go_wp2_with fail
        go_ret2
        exact ⟨⟨_, (by rw [HE.out]; rfl), (fun h => absurd h HZ.out), fun _ => rfl⟩, HB1.out⟩
    obtain rfl : k = 2 := by omega
    have ha0 : gA = 0 := HK1.out (by omega)
    have hb0 : gB = 0 := HK2.out (by omega)
    subst ha0
    subst hb0
    have hE : gE = 0 := by rw [← HGE.out]; rfl
    subst hE
    have HDN : Hid (D0.length ≤ 1048576) := by rw [← HD0.out]; exact difL_len HGA.out HGB.out
    obtain ⟨hrk, hrc⟩ := gcE_zero.1 HGA.out
    obtain ⟨h0, h64, hsh, hok⟩ := rck_zero.1 hrc
    obtain ⟨_, hrcB⟩ := gcE_zero.1 HGB.out
    obtain ⟨h0B, h64B, hshB, hokB⟩ := rck_zero.1 hrcB
    have HRK := Lib.hid hrk
    have HSHA := Lib.hid hsh
    have HSHB := Lib.hid hshB
    have HOKA : Hid (∀ k, k < A.length → (rr4 (ruleAt A k)).ck = true) := fun k hk => okRule_ck (hok k hk)
    have HOKB : Hid (∀ k, k < B.length → (rr4 (ruleAt B k)).ck = true) := fun k hk => okRule_ck (hokB k hk)
    have hla64 : la ≤ 64 := by rw [← HNA.out]; exact h64
    have hla0 : 0 < la := by rw [← HNA.out]; exact h0
    have hlb64 : lb ≤ 64 := by rw [← HNB.out]; exact h64B
    have hlb0 : 0 < lb := by rw [← HNB.out]; exact h0B
    have hdl := down_len A HOKA.out (A.length - 1) ⟨r1, r2, r3, r4⟩ (by omega) hrk
    have har := area_max hrk
    have HXK : Hid (∀ x ∈ downL A (A.length - 1) ⟨r1, r2, r3, r4⟩, x.1.ck = true ∧ x.2 < la) := fun x hx => ⟨(down_ok A HOKA.out (A.length - 1) ⟨r1, r2, r3, r4⟩ (by omega) hrk x hx).1, by have := downL_lt A _ _ x hx; have := HNA.out; omega⟩
    rw [difL_of] at HD0
    clear hrk hrc h0 h64 hsh hok hrcB h0B h64B hshB hokB t1 t2 HK1 HK2
    go_wp2_with fail
    refine (cut_any r1 r2 r3 r4 aa la ca A _ (HLA.out.later HB.out) HOKA.out HSHA.out hla0 hla64 HRK.out).mono ?_
    rintro e w1 ⟨⟨v, rfl, ho⟩, hB1⟩
    obtain ⟨pa, pc, rfl, hpi⟩ := ho.isOf cells5_len
    have HO1 := Lib.hid (OwnOf.weaken ho HB.out.size)
    have HB1 := Lib.hid (Below.next HB.out hB1)
    clear ho hpi hB1 HB HFr HT e1 e2 e3 e4 HRK HSHA HOKA
    generalize downL A (A.length - 1) ⟨r1, r2, r3, r4⟩ = D1 at *
    have hDn : D1.length ≤ 1048576 := by omega
    clear hdl har
    generalize hnn : D1.length = n at *
    have HNN := Lib.hid hnn
    clear hnn
    go_wp2_with fail
    go_loopw [11, 38] (fun u i wr => ∃ k : Nat, k ≤ n ∧ i = .int .i64 (k : Int) ∧ Hid (Sd1 w wr u (.slice pa n pc) ((D1.take k).flatMap (difOf A B)) D1)) (fun _ i _ => n - (intOf i).toNat)
    case atStart => exact ⟨0, Nat.zero_le _, rfl, Sd1.nil HB1.out HO1.out⟩
    case round =>
      obtain ⟨k, hk, rfl, HS⟩ := hrel
      clear HO1 HB1
      by_cases hlt : k < n
      · have hkl : k < D1.length := by rw [HNN.out]; exact hlt
        obtain ⟨g, rfl, hgl, c1, c2, c3, c4, c5⟩ := ownP5_at HS.out.o1 k hkl
        have hxk := HXK.out D1[k] (List.getElem_mem hkl)
        have HPL := Lib.hid (fun g D2 h t => part_len (A := A) (B := B) hkl g D2 h t)
        have HSTP := Lib.hid (difOf_step (A := A) (B := B) hkl)
        generalize (D1.take k).flatMap (difOf A B) = pre at *
        generalize D1[k] = x at *
        obtain ⟨⟨x1, x2, x3, x4⟩, a⟩ := x
        dsimp only at c1 c2 c3 c4 c5 hxk
        have hal : a < la := hxk.2
        have HXC := Lib.hid hxk.1
        have HBx := Lib.hid (below_alloc wr (.cells #[.int .i64 x1, .int .i64 x2, .int .i64 x3, .int .i64 x4, .int .i64 (a : Int)] 39))
        have hpbl : wr.heap.size < (wr.alloc (.cells #[.int .i64 x1, .int .i64 x2, .int .i64 x3, .int .i64 x4, .int .i64 (a : Int)] 39)).heap.size := by simp
        have HPB : Hid (∀ (j : Nat) (v : Value), (cells5 ((⟨x1, x2, x3, x4⟩ : R4), a))[j]? = some v → (wr.alloc (.cells #[.int .i64 x1, .int .i64 x2, .int .i64 x3, .int .i64 x4, .int .i64 (a : Int)] 39)).cell? ⟨wr.heap.size, j, none⟩ = some v) := fun j v hv => (World.cell?_alloc_at _ _ _ j rfl).trans ((List.getElem?_toArray (xs := cells5 ((⟨x1, x2, x3, x4⟩ : R4), a)) (i := j)).trans hv)
        have q1 := HPB.out 0 _ rfl
        have q2 := HPB.out 1 _ rfl
        have q3 := HPB.out 2 _ rfl
        have q4 := HPB.out 3 _ rfl
        clear hxk
        go_upto_region 12 with fail
        clear c1 c2 c3 c4 c5
        generalize hwb : wr.alloc (.cells #[.int .i64 x1, .int .i64 x2, .int .i64 x3, .int .i64 x4, .int .i64 (a : Int)] 39) = wb at *
        have hws : wb.heap.size = wr.heap.size + 1 := by rw [← hwb]; simp
        clear hwb
        go_wp2_with fail
        refine (cut_any x1 x2 x3 x4 ab lb cb B _ (HLB.out.later (Below.next HS.out.be HBx.out)) HOKB.out HSHB.out hlb0 hlb64 HXC.out).mono ?_
        rintro e w2 ⟨⟨v, rfl, ho⟩, hB2⟩
        obtain ⟨qa, qc, rfl, hpi⟩ := ho.isOf cells5_len
        have HS2 := Lib.hid (Sd2.start (y := ((⟨x1, x2, x3, x4⟩ : R4), a)) HS.out (Below.next HBx.out hB2) rfl ⟨Nat.lt_of_lt_of_le hpbl hB2.size, fun j v hv => (hB2.cell (p := ⟨wr.heap.size, j, none⟩) hpbl).trans (HPB.out j v hv)⟩ ho (by omega))
        have hfx : difOf A B ((⟨x1, x2, x3, x4⟩ : R4), a) = (downL B (B.length - 1) ⟨x1, x2, x3, x4⟩).filter (fun y => gRd (ruleAt A a) (ruleAt B y.2)) := rfl
        obtain ⟨gx, hgx⟩ : ∃ gx : R4 × Nat → Bool, gx = fun y => gRd (ruleAt A a) (ruleAt B y.2) := ⟨_, rfl⟩
        rw [← hgx] at hfx
        have HGX : Hid (∀ y, gx y = gRd (ruleAt A a) (ruleAt B y.2)) := fun y => by rw [hgx]
        have HYB : Hid (∀ y ∈ downL B (B.length - 1) ⟨x1, x2, x3, x4⟩, y.2 < lb) := fun y hy => by have := downL_lt B _ _ y hy; have := HNB.out; omega
        have hdl2 := down_len B HOKB.out (B.length - 1) ⟨x1, x2, x3, x4⟩ (by have := HNB.out; omega) HXC.out
        have har2 := area_max HXC.out
        have HFX := Lib.hid hfx
        clear hgx hfx ho hpi hB2 HBx HPB q1 q2 q3 q4 hpbl HS HXC hws
        generalize wr.heap.size = pbk at *
        generalize downL B (B.length - 1) ⟨x1, x2, x3, x4⟩ = D2 at *
        have hD2n : D2.length ≤ 1048576 := by omega
        clear hdl2 har2
        generalize hmm : D2.length = m at *
        have HMM := Lib.hid hmm
        clear hmm
        go_wp2_with fail
        go_loopw [11, 47] (fun u j wq => ∃ t : Nat, t ≤ m ∧ j = .int .i64 (t : Int) ∧ Hid (Sd2 w wq u (.slice (some ⟨g, 0, none⟩) n pc) (.slice qa m qc) pbk ((⟨x1, x2, x3, x4⟩ : R4), a) (pre ++ (D2.take t).filter gx) D1 D2)) (fun _ j _ => m - (intOf j).toNat)
        case atStart => exact ⟨0, Nat.zero_le _, rfl, by rw [List.take_zero, List.filter_nil, List.append_nil]; exact HS2.out⟩
        case round =>
          obtain ⟨t, ht, rfl, HS3⟩ := hrel
          clear HS2
          by_cases hlt2 : t < m
          · have htl : t < D2.length := by rw [HMM.out]; exact hlt2
            obtain ⟨g2, rfl, hg2l, d1, d2, d3, d4, d5⟩ := ownP5_at HS3.out.o2 t htl
            have hbl := HYB.out D2[t] (List.getElem_mem htl)
            have HFT : Hid (gx D2[t] = true → (D2.take t).filter gx ++ [D2[t]] = (D2.take (t + 1)).filter gx) := fun h => filt_t htl h
            have HFF : Hid (gx D2[t] = false → (D2.take t).filter gx = (D2.take (t + 1)).filter gx) := fun h => filt_f htl h
            have HLN : Hid ((pre ++ (D2.take t).filter gx).length ≤ 1048576) := by have h := HPL.out gx D2 HFX.out t; rw [HD0.out] at h; exact Nat.le_trans h HDN.out
            have HGY := Lib.hid (HGX.out D2[t])
            generalize D2[t] = y at *
            obtain ⟨⟨y1, y2, y3, y4⟩, b⟩ := y
            dsimp only at d1 d2 d3 d4 d5 hbl HGY
            have HBy := Lib.hid (below_alloc wr (.cells #[.int .i64 y1, .int .i64 y2, .int .i64 y3, .int .i64 y4, .int .i64 (b : Int)] 39))
            have HQB : Hid (∀ (j : Nat) (v : Value), (cells5 ((⟨y1, y2, y3, y4⟩ : R4), b))[j]? = some v → (wr.alloc (.cells #[.int .i64 y1, .int .i64 y2, .int .i64 y3, .int .i64 y4, .int .i64 (b : Int)] 39)).cell? ⟨wr.heap.size, j, none⟩ = some v) := fun j v hv => (World.cell?_alloc_at _ _ _ j rfl).trans ((List.getElem?_toArray (xs := cells5 ((⟨y1, y2, y3, y4⟩ : R4), b)) (i := j)).trans hv)
            have HSW := Lib.hid (HS3.out.later HBy.out)
            have hqz : wr.heap.size < (wr.alloc (.cells #[.int .i64 y1, .int .i64 y2, .int .i64 y3, .int .i64 y4, .int .i64 (b : Int)] 39)).heap.size := by simp
            go_upto_region 15 with fail
            clear d1 d2 d3 d4 d5 HBy HS3
            generalize wr.alloc (.cells #[.int .i64 y1, .int .i64 y2, .int .i64 y3, .int .i64 y4, .int .i64 (b : Int)] 39) = W at *
            have q1 := HQB.out 0 _ rfl
            have q2 := HQB.out 1 _ rfl
            have q3 := HQB.out 2 _ rfl
            have q4 := HQB.out 3 _ rfl
            have q5 := HQB.out 4 _ rfl
            have p5 := HSW.out.bl.2 4 _ rfl
            have haL : a < A.length := by rw [HNA.out]; exact hal
            have hbL : b < B.length := by rw [HNB.out]; exact hbl
            obtain ⟨ba, offa, rfl, hrowA⟩ := (HLA.out.later HSW.out.be).2 hla0
            obtain ⟨bb, offb, rfl, hrowB⟩ := (HLB.out.later HSW.out.be).2 hlb0
            obtain ⟨_, _, _, _, s5, _, _⟩ := RowOf.seven hrowA a haL
            obtain ⟨_, _, _, _, z5, _, _⟩ := RowOf.seven hrowB b hbL
            have hrA : ruleAt A a = A[a] := ruleAt_get haL
            have hrB : ruleAt B b = B[b] := ruleAt_get hbL
            rw [hrA, hrB] at HGY
            unfold gRd at HGY
            have hbA := hrowA.1
            have hbB := hrowB.1
            clear hrowA hrowB hrA hrB
            generalize A[a] = RA at *
            generalize B[b] = RB at *
            obtain ⟨_, _, _, _, u5, _, _⟩ := RA
            obtain ⟨_, _, _, _, w5, _, _⟩ := RB
            dsimp only at s5 z5 HGY
            by_cases hE : u5 = w5
            · have hg0 : gx ((⟨y1, y2, y3, y4⟩ : R4), b) = false := by rw [HGY.out, hE]; simp
              have HFF2 := Lib.hid (HFF.out hg0)
              subst hE
              clear HFT HFF hg0
              go_wp2_with fail
              go_quiet (fail)
              go_wp2_with fail
              exact ⟨⟨t + 1, by omega, by go_num, by rw [← HFF2.out]; exact HSW.out.later (below_drewN (Below.refl _ _) _)⟩, by simp [intOf]; omega⟩
            · have hne : ((u5.toNat : Int) != (w5.toNat : Int)) = true := by
                rw [bne_iff_ne]; intro e; exact hE (BitVec.eq_of_toNat_eq (by omega))
              have hne2 : ((u5.toNat : Int) == (w5.toNat : Int)) = false := by
                rw [beq_eq_false_iff_ne]; intro e; exact hE (BitVec.eq_of_toNat_eq (by omega))
              have hg1 : gx ((⟨y1, y2, y3, y4⟩ : R4), b) = true := by rw [HGY.out, Bool.not_eq_true', beq_eq_false_iff_ne]; exact hE
              have HFT2 := Lib.hid (HFT.out hg1)
              clear HFT HFF hg1 hE
              go_wp2_with fail
              go_quiet (fail)
              have HSd := Lib.hid (HSW.out.later (below_drewN (Below.refl _ _) nq))
              have g1 : (W.drewN nq).cell? ⟨wr.heap.size, 0, none⟩ = some (.int .i64 y1) := q1
              have g2' : (W.drewN nq).cell? ⟨wr.heap.size, 1, none⟩ = some (.int .i64 y2) := q2
              have g3 : (W.drewN nq).cell? ⟨wr.heap.size, 2, none⟩ = some (.int .i64 y3) := q3
              have g4 : (W.drewN nq).cell? ⟨wr.heap.size, 3, none⟩ = some (.int .i64 y4) := q4
              have g5 : (W.drewN nq).cell? ⟨wr.heap.size, 4, none⟩ = some (.int .i64 (b : Int)) := q5
              have gz : wr.heap.size < (W.drewN nq).heap.size := hqz
              have hzW := HSd.out.be.size
              have HSa := Lib.hid (HSd.out.later (below_alloc _ (.cells #[.int .i64 y1, .int .i64 y2, .int .i64 y3, .int .i64 y4, .int .i64 (b : Int)] 39)))
              clear q1 q2 q3 q4 q5 s5 z5 hbA hbB p5 HSW HQB hne hne2
              generalize W.drewN nq = W2 at *
              go_wp2_with (at_builtin; go_loud (refine wpList_appG rfl (.tmp 66) (.tmp 68) 36 rfl Try.underlying36 _ 40 infoPart zero5 (by decide) (by decide) cells5_len cells5_one w.heap.size _ (pre ++ (D2.take t).filter gx) rfl (OwnOf.alloc HSd.out.ou _) _ 1 1 [((⟨y1, y2, y3, y4⟩ : R4), b)] rfl (isOf_new _ _ _ _ rfl) (by have := HLN.out; omega) (by simp; omega) ?_; intro v5 w5 ho5 hg5 hr5))
              have HS5 := HSa.out.grow ho5 hg5 hr5
              rw [List.append_assoc, HFT2.out] at HS5
              exact ⟨⟨t + 1, by omega, by go_num, HS5⟩, by simp [intOf]; omega⟩
          · obtain rfl : t = m := by omega
            have HTK : Hid (D2.take t = D2) := List.take_of_length_le (by rw [HMM.out]; exact Nat.le_refl _)
            have HS4 := HS3.out.one
            rw [HTK.out, ← HFX.out, HSTP.out] at HS4
            have HS4 := Lib.hid HS4
            clear HS3
            go_wp2_with fail
            exact ⟨⟨k + 1, by omega, by go_num, HS4.out⟩, by simp [intOf]; omega⟩
      · obtain rfl : k = n := by omega
        have HTK : Hid (D1.take k = D1) := List.take_of_length_le (by rw [HNN.out]; exact Nat.le_refl _)
        rw [HTK.out, HD0.out] at HS
        go_wp2_with fail
        refine (sorted_any w.heap.size _ D0 _ HS.out.ou HS.out.be.size (by have := HDN.out; omega)).mono ?_
        rintro e w4 ⟨rfl, ⟨D, hS, hD⟩, hB4⟩
        have HB4 := Lib.hid (HS.out.be.trans hB4)
        have HSo := Lib.hid hS
        have hDl : D.length ≤ 1048576 := by rw [hS.1.length_eq]; exact HDN.out
        obtain ⟨sa, sc, rfl, hpi⟩ := hD.isOf cells5_len
        have HD := Lib.hid hD
        clear HS hB4 hS hD hpi
        generalize hnn : D.length = nn at *
        have HN4 := Lib.hid hnn
        clear hnn
        go_wp2_with fail
        go_loopw [16, 75] (fun u z wr => ∃ k : Nat, k ≤ nn ∧ z = .int .i64 (k : Int) ∧ Hid (OwnR w.heap.size wr u (rects (D.take k))) ∧ Hid (OwnP5 w.heap.size wr (.slice sa nn sc) D) ∧ Hid (Below w.heap.size w wr)) (fun _ z _ => nn - (intOf z).toNat)
        case atStart => exact ⟨0, Nat.zero_le _, rfl, OwnR.nil _ _, HD.out, HB4.out⟩
        case round =>
          obtain ⟨k, hk, rfl, HU, HP, HBr⟩ := hrel
          by_cases hlt : k < nn
          · have hkl : k < D.length := by rw [HN4.out]; exact hlt
            obtain ⟨g, rfl, hgl, c1, c2, c3, c4, c5⟩ := ownP5_at HP.out k hkl
            have HU2 : Hid (rects (D.take k) ++ [D[k].1] = rects (D.take (k + 1))) := by unfold Hid rects; rw [List.take_succ_eq_append_getElem hkl, List.map_append]; rfl
            have HUL : Hid ((rects (D.take k)).length ≤ 1048576) := by unfold Hid rects; rw [List.length_map, List.length_take]; omega
            generalize rects (D.take k) = X at *
            generalize D[k] = y at *
            obtain ⟨⟨y1, y2, y3, y4⟩, j⟩ := y
            dsimp only at *
            have hwl := HBr.out.size
            have HUb := Lib.hid (HU.out.alloc (.cells #[.int .i64 y1, .int .i64 y2, .int .i64 y3, .int .i64 y4, .int .i64 (j : Int)] 39))
            have HPb := Lib.hid (HP.out.alloc (.cells #[.int .i64 y1, .int .i64 y2, .int .i64 y3, .int .i64 y4, .int .i64 (j : Int)] 39))
            have HBb := Lib.hid (HBr.out.alloc hwl (.cells #[.int .i64 y1, .int .i64 y2, .int .i64 y3, .int .i64 y4, .int .i64 (j : Int)] 39))
            have hcb : ∀ (i : Nat) (v : Value), #[Value.int .i64 y1, .int .i64 y2, .int .i64 y3, .int .i64 y4, .int .i64 (j : Int)][i]? = some v → (wr.alloc (.cells #[.int .i64 y1, .int .i64 y2, .int .i64 y3, .int .i64 y4, .int .i64 (j : Int)] 39)).cell? ⟨wr.heap.size, i, none⟩ = some v := fun i v h => (World.cell?_alloc_at _ _ _ i rfl).trans h
            have hsb := World.size_alloc wr (.cells #[.int .i64 y1, .int .i64 y2, .int .i64 y3, .int .i64 y4, .int .i64 (j : Int)] 39)
            have q1 := hcb 0 _ rfl
            have q2 := hcb 1 _ rfl
            have q3 := hcb 2 _ rfl
            have q4 := hcb 3 _ rfl
            have HUN := Lib.hid (World.ownsRow.lt HU.out)
            clear hcb
            go_upto_region 23 with fail
            clear c1 c2 c3 c4 c5
            generalize wr.alloc (.cells #[.int .i64 y1, .int .i64 y2, .int .i64 y3, .int .i64 y4, .int .i64 (j : Int)] 39) = wb at *
            have hws : w.heap.size ≤ wb.heap.size := by omega
            go_wp2_with (at_builtin; refine wpList_appG rfl (.tmp 79) (.tmp 82) 27 rfl Try.underlying27 _ 32 infoRect4 zero4 (by decide) (by decide) cells4_len cells4_one w.heap.size _ X rfl (OwnR.alloc HUb.out _) _ 1 1 [⟨y1, y2, y3, y4⟩] rfl (isOf_at _ _ _ _ _ hsb.symm rfl) (by have := HUL.out; omega) (by simp; omega) ?_; intro v3 w3 ho3 hg3 hr3)
            have HU3 := Lib.hid ho3
            have HP3 := Lib.hid (OwnOf.apart (HPb.out.alloc (.cells #[.int .i64 y1, .int .i64 y2, .int .i64 y3, .int .i64 y4] 23)) (OwnR.alloc HUb.out _) (by decide) hg3)
            have HB3 : Hid (Below w.heap.size w w3) := (HBb.out.alloc hws _).grown hg3 (by simp; omega) (fun q hq => (HUN.out q hq).1)
            refine ⟨⟨k + 1, by omega, by go_num, ?_, HP3.out, HB3.out⟩, by simp [intOf]; omega⟩
            have h := HU3.out
            rw [HU2.out] at h
            exact h
          · obtain rfl : k = nn := by omega
            have HT : Hid (D.take k = D) := List.take_of_length_le (by rw [HN4.out]; exact Nat.le_refl _)
            rw [HT.out] at HU
            go_wp2_with fail
            go_ret2
            exact ⟨⟨_, rfl, D, HSo.out, HU.out⟩, HBr.out⟩
end Go.Proofs.Ythgnhdfppmoooaa.Re
