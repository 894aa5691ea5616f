/- The specification's Over and May. -/
import Derived.Test.YtigofjamednfpaaPtC
import Derived.Test.YtigofjamednfpaaOverI
namespace Go.Proofs.Ytigofjamednfpaa.Re
open Go.RowKit AM
set_option maxHeartbeats 1600000 in
theorem scheck20_any (x1 x2 x3 x4 : Int) (a : Option Addr) (len cap : Nat) (L : List RV) (w : World) (hL : IsL w a len L) :
    Calls Try.prog 34 #[.agg #[.int .i64 x1, .int .i64 x2, .int .i64 x3, .int .i64 x4], .slice a len cap] w fun e w' => e = .returned (.int .i64 (gcE ⟨x1, x2, x3, x4⟩ L)) ∧ Below w.heap.size w w' := by
  have HL := Lib.hid hL
  clear hL
  have l1 := Lib.hid (below_alloc w (.cells #[.int .i64 x1, .int .i64 x2, .int .i64 x3, .int .i64 x4] 23))
  go_enter Try.func34, Try.ntmps34
  go_wp2_with fail
  refine (srange_any x1 x2 x3 x4 _).mono ?_
  rintro e w1 ⟨rfl, hB1⟩
  have HB1 := Lib.hid (Below.next l1.out hB1)
  clear hB1 l1
  cases hc : ckB x1 x2 x3 x4
  · have HC := Lib.hid hc
    clear hc
    go_wp2_with fail
    go_ret
    exact ⟨retI (by unfold gcE; rw [if_neg (by rw [HC.out]; decide)]), HB1.out⟩
  · have HC := Lib.hid hc
    clear hc
    go_wp2_with fail
    refine (scheck_big 64 a len cap L _ (HL.out.later HB1.out)).mono ?_
    rintro e w2 ⟨rfl, hB2⟩
    have HB2 := Lib.hid (Below.next HB1.out hB2)
    clear hB2 HB1
    unfold ckV
    go_wp2_with fail
    go_ret
    exact ⟨retI (by unfold gcE; rw [if_pos HC.out]), HB2.out⟩
theorem ovP_pts {f : RV → W64} {r : R4} {L : List RV} (h : gcE r L = 0) : ovP f L (ptsL r L) = ovr f r L := by
  apply BitVec.eq_of_getLsbD_eq
  intro i hi
  rw [Bool.eq_iff_iff, ovP_bit f L i hi, List.all_eq_true, ovr_iff h hi]
  constructor
  · intro hh p q hp
    obtain ⟨x, hx, hl⟩ := pts_last (L := L) hp
    rw [← hl]
    exact hh x hx
  · intro hh x hx
    exact hh _ _ (pts_in hx)
theorem ownQ2_at {B : Nat} {w : World} {a : Option Addr} {n c : Nat} {D : List (Int × Int)} (h : OwnQ2 B w (.slice a n c) D) (k : Nat) (hk : k < D.length) : ∃ g, a = some ⟨g, 0, none⟩ ∧ g < w.heap.size ∧
    w.cell? ⟨g, k * 2, none⟩ = some (.int .i64 D[k].1) ∧ w.cell? ⟨g, k * 2 + 1, none⟩ = some (.int .i64 D[k].2) := by
  obtain ⟨a', c', e, hi⟩ := h.isOf cells2_len
  injection e with e1 e2 e3
  subst e1
  rcases h.2 with ⟨h1, h2⟩ | ⟨g, cp, cur, h1, hg, hh, _⟩
  · rw [← e2] at h2; rw [show D.length = 0 by omega] at hk; cases hk
  · injection h1 with h1 _ _
    subst h1
    obtain ⟨b, off, hb, hr⟩ := hi.2 (by omega)
    injection hb with hb
    injection hb with hb1 hb2
    subst hb1; subst hb2
    have key : ∀ (j : Nat) (v : Value), (cells2 D[k])[j]? = some v → w.cell? ⟨g, k * 2 + j, none⟩ = some v := fun j v hv => by
      have := hr.2 k hk j v hv
      rwa [Nat.zero_add] at this
    exact ⟨g, rfl, hr.1, key 0 _ rfl, key 1 _ rfl⟩
set_option maxRecDepth 100000 in
set_option maxHeartbeats 6400000 in
theorem sover_any (r1 r2 r3 r4 : Int) (a : Option Addr) (len cap : Nat) (L : List RV) (w : World) (hL : IsL w a len L) :
    Calls Try.prog 13 #[.agg #[.int .i64 r1, .int .i64 r2, .int .i64 r3, .int .i64 r4], .slice a len cap] w fun e w' => e = .returned (overV ⟨r1, r2, r3, r4⟩ L) ∧ Below w.heap.size w w' := by
  have HL := Lib.hid hL
  have HLL := Lib.hid hL.1
  clear hL
  go_enter Try.func13, Try.ntmps13
  have hF := Four.start w r1 r2 r3 r4 23
  have l1 := below_alloc w (.cells #[.int .i64 r1, .int .i64 r2, .int .i64 r3, .int .i64 r4] 23)
  have l2 := below_alloc (w.alloc (.cells #[.int .i64 r1, .int .i64 r2, .int .i64 r3, .int .i64 r4] 23)) (.cells #[.int .u64 0, .int .u64 0, .int .u64 0] 28)
  have hR := Bl3.start (w.alloc (.cells #[.int .i64 r1, .int .i64 r2, .int .i64 r3, .int .i64 r4] 23)) 0 0 0
  rw [World.size_alloc] at hR
  have HF := Lib.hid (hF.later l2)
  have HR := Lib.hid hR
  have HB := Lib.hid (Below.next l1 l2)
  clear hF hR l1 l2
  go_wp2_with fail
  generalize (w.alloc (.cells #[.int .i64 r1, .int .i64 r2, .int .i64 r3, .int .i64 r4] 23)).alloc (.cells #[.int .u64 0, .int .u64 0, .int .u64 0] 28) = w0 at *
  refine (scheck20_any r1 r2 r3 r4 a len cap L _ (HL.out.later HB.out)).mono ?_
  rintro e w1 ⟨rfl, hB1⟩
  have HF1 := Lib.hid (HF.out.later hB1)
  have HR1 := Lib.hid (HR.out.later hB1)
  have HB1 := Lib.hid (Below.next HB.out hB1)
  clear hB1 HF HR HB
  obtain ⟨_, e1, e2, e3, e4⟩ := HF1.out
  obtain ⟨q1, q2, q3, o1, o2, o3⟩ := HR1.out.cells
  have hr1l := HR1.out.lt
  have ones : ((BitVec.allOnes 64 : W64).toNat : Int) = 18446744073709551615 := by decide
  have HONE := Lib.hid ones
  clear ones
  by_cases hz : gcE ⟨r1, r2, r3, r4⟩ L = 0
  · obtain ⟨hrk, hrc⟩ := gcE_zero.1 hz
    obtain ⟨h0, h64, hsh, hok⟩ := rck_zero.1 hrc
    have HE : Hid (overV ⟨r1, r2, r3, r4⟩ L = .tuple #[rights3 (ovr RV.rd ⟨r1, r2, r3, r4⟩ L) (ovr RV.wr ⟨r1, r2, r3, r4⟩ L) (ovr RV.ow ⟨r1, r2, r3, r4⟩ L), .int .i64 0]) := by
      unfold Hid overV ovV; rw [hz, if_pos rfl, if_pos rfl, if_pos rfl]
    have HRK := Lib.hid hrk
    have HSH := Lib.hid hsh
    have HOK : Hid (∀ k, k < L.length → (rr4 (ruleAt L k)).ck = true) := fun k hk => okRule_ck (hok k hk)
    have hlen : len ≤ 64 := by rw [← HLL.out]; exact h64
    have hlen0 : 0 < len := by rw [← HLL.out]; exact h0
    rw [hz]
    have HOVP : Hid (∀ f : RV → W64, ovr f ⟨r1, r2, r3, r4⟩ L = ovP f L (ptsL ⟨r1, r2, r3, r4⟩ L)) := fun f => (ovP_pts hz).symm
    have hLT := fun p q => lastI_lt L p q L.length h0
    have HLAST := Lib.hid hLT
    have HPTN : Hid ((ptsL ⟨r1, r2, r3, r4⟩ L).length ≤ 1048576) := by
      unfold Hid
      have e : ptsL ⟨r1, r2, r3, r4⟩ L = (rowsP ⟨r1, r2, r3, r4⟩ L).flatMap (lineP (colsP ⟨r1, r2, r3, r4⟩ L)) := rfl
      have hck := hrk
      unfold R4.ck at hck
      rw [ckB_iff] at hck
      dsimp only at hck
      rw [e, lines_len]
      have h1 : (rowsP ⟨r1, r2, r3, r4⟩ L).length ≤ 1024 := Nat.le_trans (cutL_len _ _ _) (by unfold hei4; dsimp only; omega)
      have h2 : (colsP ⟨r1, r2, r3, r4⟩ L).length ≤ 1024 := Nat.le_trans (cutL_len _ _ _) (by unfold wid4; dsimp only; omega)
      exact Nat.le_trans (Nat.mul_le_mul h1 h2) (by decide)
    clear hz hrk hrc h0 h64 hsh hok hLT
    go_wp2_with fail
    refine (sall_in 64 (by decide) _).mono ?_
    rintro e w1' ⟨rfl, rfl⟩
    rw [allW_64, HONE.out]
    go_wp2_with fail
    have HB2 := Lib.hid (Below.next HB1.out (below_alloc w1 (.cells #[.int .u64 18446744073709551615, .int .u64 18446744073709551615, .int .u64 18446744073709551615] 28)))
    have HR2 := Lib.hid (HR1.out.later (below_alloc w1 (.cells #[.int .u64 18446744073709551615, .int .u64 18446744073709551615, .int .u64 18446744073709551615] 28)))
    have HV2 := Lib.hid (Bl3.start w1 18446744073709551615 18446744073709551615 18446744073709551615)
    have hs2 := World.size_alloc w1 (.cells #[.int .u64 18446744073709551615, .int .u64 18446744073709551615, .int .u64 18446744073709551615] 28)
    generalize w1.alloc (.cells #[.int .u64 18446744073709551615, .int .u64 18446744073709551615, .int .u64 18446744073709551615] 28) = w2 at *
    refine (points_any r1 r2 r3 r4 a len cap L hlen _ (HL.out.later HB2.out) HOK.out HRK.out).mono ?_
    rintro e w3 ⟨⟨v, rfl, ho⟩, hB3⟩
    obtain ⟨pa, pc, rfl, hpi⟩ := ho.isOf cells2_len
    have HPA := Lib.hid ho
    have HB3 := Lib.hid (Below.next HB2.out hB3)
    have HV3 := Lib.hid (HV2.out.later hB3)
    have HR3 := Lib.hid (HR2.out.later hB3)
    have hs3 := hB3.size
    have hs1 := HB1.out.size
    clear ho hpi hB3 HB2 HV2 HR2 e1 e2 e3 e4 q1 q2 q3 o1 o2 o3 HF1 HR1 HB1
    generalize ptsL ⟨r1, r2, r3, r4⟩ L = D at *
    have hDn : D.length ≤ 1048576 := HPTN.out
    clear HPTN
    generalize hnn : D.length = n at *
    have HNN := Lib.hid hnn
    clear hnn
    have hbase : w1.heap.size < w2.heap.size := by omega
    go_wp2_with fail
    go_loopw [11] (fun z wr => ∃ k : Nat, k ≤ n ∧ z = .int .i64 (k : Int) ∧ Hid (Bl3 wr w1.heap.size ((ovP RV.rd L (D.take k)).toNat : Int) ((ovP RV.wr L (D.take k)).toNat : Int) ((ovP RV.ow L (D.take k)).toNat : Int)) ∧ Hid (OwnQ2 w2.heap.size wr (.slice pa n pc) D) ∧ Hid (Bl3 wr (w.heap.size + 1) 0 0 0) ∧ Below w.heap.size w wr) (fun z _ => n - (intOf z).toNat)
    case atStart => exact ⟨0, Nat.zero_le _, rfl, by rw [List.take_zero]; show Bl3 w3 w1.heap.size ((BitVec.allOnes 64 : W64).toNat : Int) ((BitVec.allOnes 64 : W64).toNat : Int) ((BitVec.allOnes 64 : W64).toNat : Int); rw [HONE.out]; exact HV3.out, HPA.out, HR3.out, HB3.out⟩
    case round =>
      obtain ⟨k, hk, rfl, HVr, HPr, HRr, hBr⟩ := hrel
      have HBr := Lib.hid hBr
      clear hBr
      by_cases hlt : k < n
      · have hkl : k < D.length := by rw [HNN.out]; exact hlt
        obtain ⟨g, rfl, hgl, c1, c2⟩ := ownQ2_at HPr.out k hkl
        have hx := HLAST.out D[k].1 D[k].2
        have hstep : ∀ f : RV → W64, ovP f L (D.take (k + 1)) = ovP f L (D.take k) &&& f (ruleAt L (lastI L D[k].1 D[k].2 L.length)) := fun f => by
          rw [List.take_succ_eq_append_getElem hkl, ovP_snoc]
        have HSTEP := Lib.hid hstep
        clear hstep
        generalize D[k] = y at *
        obtain ⟨y1, y2⟩ := y
        dsimp only at *
        go_wp2_with fail
        refine (slast_any y1 y2 a len cap L (by omega) _ (HL.out.later HBr.out)).mono ?_
        rintro e wr2 ⟨rfl, hB⟩
        have HVr2 := Lib.hid (HVr.out.later hB)
        have HPr2 := Lib.hid (HPr.out.later hB)
        have HRr2 := Lib.hid (HRr.out.later hB)
        have HBr2 := Lib.hid (Below.next HBr.out hB)
        clear hB HVr HPr HRr HBr c1 c2
        have HVr := HVr2
        have HPr := HPr2
        have HRr := HRr2
        have HBr := HBr2
        clear HVr2 HPr2 HRr2 HBr2
        generalize lastI L y1 y2 L.length = j at *
        have hjl : j < len := by have := HLL.out; omega
        have hjL : j < L.length := by rw [HLL.out]; exact hjl
        obtain ⟨b, off, rfl, hrow⟩ := (HL.out.later HBr.out).2 hlen0
        have s := RowOf.seven hrow j hjL
        have hbl := hrow.1
        have HRA : Hid (ruleAt L j = L[j]) := ruleAt_get hjL
        clear hrow
        generalize L[j] = R at *
        obtain ⟨x1, x2, x3, x4, x5, x6, x7⟩ := R
        obtain ⟨_, _, _, _, s5, s6, s7⟩ := s
        obtain ⟨v1, v2, v3, f1, f2, f3⟩ := HVr.out.cells
        have hvl := HVr.out.lt
        have HA1 := Lib.hid (HSTEP.out RV.rd)
        have HA2 := Lib.hid (HSTEP.out RV.wr)
        have HA3 := Lib.hid (HSTEP.out RV.ow)
        rw [HRA.out] at HA1 HA2 HA3
        clear HSTEP
        generalize ovP RV.rd L (D.take k) = t1 at *
        generalize ovP RV.wr L (D.take k) = t2 at *
        generalize ovP RV.ow L (D.take k) = t3 at *
        dsimp only at *
        have HW1 := Lib.hid (bits_and t1 x5)
        have HW2 := Lib.hid (bits_and t2 x6)
        have HW3 := Lib.hid (bits_and t3 x7)
        go_wp2_with fail
        rw [HW1.out, HW2.out, HW3.out]
        obtain ⟨hv2, hgr⟩ := HVr.out.set ((t1 &&& x5).toNat : Int) ((t2 &&& x6).toNat : Int) ((t3 &&& x7).toNat : Int)
        have hown : OwnQ2 w2.heap.size (((wr2.setCell ⟨w1.heap.size, 0, none⟩ (.int .u64 ((t1 &&& x5).toNat : Int))).setCell ⟨w1.heap.size, 1, none⟩ (.int .u64 ((t2 &&& x6).toNat : Int))).setCell ⟨w1.heap.size, 2, none⟩ (.int .u64 ((t3 &&& x7).toNat : Int))) (.slice (some ⟨g, 0, none⟩) n pc) D :=
          ownsRow_setCell_below (ownsRow_setCell_below (ownsRow_setCell_below HPr.out hbase _) hbase _) hbase _
        have hres : Bl3 (((wr2.setCell ⟨w1.heap.size, 0, none⟩ (.int .u64 ((t1 &&& x5).toNat : Int))).setCell ⟨w1.heap.size, 1, none⟩ (.int .u64 ((t2 &&& x6).toNat : Int))).setCell ⟨w1.heap.size, 2, none⟩ (.int .u64 ((t3 &&& x7).toNat : Int))) (w.heap.size + 1) 0 0 0 :=
          (hgr.block _ HRr.out.lt (by intro e; injection e with e; omega)).trans HRr.out
        have hbel := HBr.out.grown hgr HBr.out.size (fun q hq => by injection hq with hq; omega)
        clear hgr
        generalize ((wr2.setCell ⟨w1.heap.size, 0, none⟩ (.int .u64 ((t1 &&& x5).toNat : Int))).setCell ⟨w1.heap.size, 1, none⟩ (.int .u64 ((t2 &&& x6).toNat : Int))).setCell ⟨w1.heap.size, 2, none⟩ (.int .u64 ((t3 &&& x7).toNat : Int)) = ws at *
        refine ⟨⟨k + 1, by omega, by go_num, ?_, hown.alloc _, hres.later (below_alloc _ _), hbel.alloc hbel.size _⟩, by simp [intOf]; omega⟩
        rw [HA1.out, HA2.out, HA3.out]
        exact hv2.later (below_alloc _ _)
      · obtain rfl : k = n := by omega
        have HT : Hid (D.take k = D) := List.take_of_length_le (by rw [HNN.out]; exact Nat.le_refl _)
        rw [HT.out] at HVr
        have HD1 := Lib.hid (HOVP.out RV.rd)
        have HD2 := Lib.hid (HOVP.out RV.wr)
        have HD3 := Lib.hid (HOVP.out RV.ow)
        generalize ovP RV.rd L D = t1 at *
        generalize ovP RV.wr L D = t2 at *
        generalize ovP RV.ow L D = t3 at *
        obtain ⟨v1, v2, v3, _⟩ := HVr.out.cells
        obtain ⟨q1, q2, q3, o1, o2, o3⟩ := HRr.out.cells
        have hvl := HVr.out.lt
        have hrl := HRr.out.lt
        go_wp2_with fail
        have hset := (HRr.out.set (t1.toNat : Int) (t2.toNat : Int) (t3.toNat : Int)).1.cells
        obtain ⟨z1, z2, z3, _⟩ := hset
        exact bodyPost_ret (v := .tuple #[.agg #[.int .u64 (t1.toNat : Int), .int .u64 (t2.toNat : Int), .int .u64 (t3.toNat : Int)], .int .i64 0]) (by simp [results, Try.results13, go_sem, z1, z2, z3]) rfl ⟨by rw [HE.out, HD1.out, HD2.out, HD3.out]; rfl, ((HBr.out.setCell (Nat.le_succ _) _).setCell (Nat.le_succ _) _).setCell (Nat.le_succ _) _⟩
  · have HZ := Lib.hid hz
    have HV : Hid (∀ f : RV → W64, ovV f ⟨r1, r2, r3, r4⟩ L = 0#64) := fun f => by unfold ovV; rw [if_neg hz]
    have HE : Hid (overV ⟨r1, r2, r3, r4⟩ L = .tuple #[.agg #[.int .u64 0, .int .u64 0, .int .u64 0], .int .i64 (gcE ⟨r1, r2, r3, r4⟩ L)]) := by unfold Hid overV; rw [HV.out, HV.out, HV.out]; rfl
    have hz1 : (gcE ⟨r1, r2, r3, r4⟩ L != 0) = true := by simpa using hz
    have hz2 : (gcE ⟨r1, r2, r3, r4⟩ L == 0) = false := by simpa using hz
    generalize gcE ⟨r1, r2, r3, r4⟩ L = g at *
    clear hz
    go_wp2_with fail
    exact bodyPost_ret (v := .tuple #[.agg #[.int .u64 0, .int .u64 0, .int .u64 0], .int .i64 g]) (by simp [results, Try.results13, go_sem, q1, q2, q3]) rfl ⟨by rw [HE.out], ((HB1.out.setCell (Nat.le_succ _) _).setCell (Nat.le_succ _) _).setCell (Nat.le_succ _) _⟩
set_option maxRecDepth 100000 in
set_option maxHeartbeats 1600000 in
theorem smay_any (u r1 r2 r3 r4 : Int) (a : Option Addr) (len cap : Nat) (L : List RV) (w : World) (hL : IsL w a len L) :
    Calls Try.prog 15 #[.int .i64 u, .agg #[.int .i64 r1, .int .i64 r2, .int .i64 r3, .int .i64 r4], .slice a len cap] w fun e w' =>
      e = .returned (.tuple #[.bool (mayB RV.wr u ⟨r1, r2, r3, r4⟩ L), .bool (mayB RV.ow u ⟨r1, r2, r3, r4⟩ L), .int .i64 (mayE u ⟨r1, r2, r3, r4⟩ L)]) ∧ Below w.heap.size w w' := by
  have HL := Lib.hid hL
  clear hL
  have HB := Lib.hid (below_alloc w (.cells #[.int .i64 r1, .int .i64 r2, .int .i64 r3, .int .i64 r4] 23))
  go_enter Try.func15, Try.ntmps15
  go_wp2_with fail
  refine (sover_any r1 r2 r3 r4 a len cap L _ (HL.out.later HB.out)).mono ?_
  rintro e w1 ⟨rfl, hB1⟩
  have HB1 := Lib.hid (Below.next HB.out hB1)
  clear hB1 HB
  have HBz := Lib.hid (Below.next HB1.out (below_alloc w1 (.cells #[.int .u64 ((ovV RV.rd ⟨r1, r2, r3, r4⟩ L).toNat : Int), .int .u64 ((ovV RV.wr ⟨r1, r2, r3, r4⟩ L).toNat : Int), .int .u64 ((ovV RV.ow ⟨r1, r2, r3, r4⟩ L).toNat : Int)] 28)))
  by_cases hz : gcE ⟨r1, r2, r3, r4⟩ L = 0
  · have hv : ∀ f : RV → W64, ovV f ⟨r1, r2, r3, r4⟩ L = ovr f ⟨r1, r2, r3, r4⟩ L := fun f => by unfold ovV; rw [if_pos hz]
    have HM : Hid (∀ f : RV → W64, mayB f u ⟨r1, r2, r3, r4⟩ L = (vld u && (ovr f ⟨r1, r2, r3, r4⟩ L).getLsbD u.toNat)) := fun f => by unfold mayB; rw [decide_eq_true hz]; rfl
    have HE : Hid (mayE u ⟨r1, r2, r3, r4⟩ L = if vld u = true then 0 else 2) := by unfold Hid mayE; rw [if_pos hz]
    unfold overV rights3
    rw [hv] at HBz
    rw [hv] at HBz
    rw [hv] at HBz
    rw [hv, hv, hv, hz]
    have HM2 := Lib.hid (HM.out RV.wr)
    have HM3 := Lib.hid (HM.out RV.ow)
    clear hv hz HM
    generalize ovr RV.rd ⟨r1, r2, r3, r4⟩ L = A1 at *
    generalize ovr RV.wr ⟨r1, r2, r3, r4⟩ L = A2 at *
    generalize ovr RV.ow ⟨r1, r2, r3, r4⟩ L = A3 at *
    have hX := Box3.start w1 (A1.toNat : Int) (A2.toNat : Int) (A3.toNat : Int) 28
    have HX := Lib.hid hX
    clear hX
    go_wp2_with fail
    refine (suser_any u _).mono ?_
    rintro e w2 ⟨rfl, rfl⟩
    generalize w1.alloc (.cells #[.int .u64 (A1.toNat : Int), .int .u64 (A2.toNat : Int), .int .u64 (A3.toNat : Int)] 28) = wz at *
    cases hv : vld u
    · have hk := Lib.hid hv
      clear hv
      go_wp2_with fail
      go_ret3
      exact ⟨retMay (by rw [HM2.out, hk.out]; rfl) (by rw [HM3.out, hk.out]; rfl) (by rw [HE.out, hk.out]; rfl), HBz.out⟩
    · have hk := Lib.hid hv
      clear hv
      go_wp2_with fail
      refine wp_region_seqo (fun X => Below wz.heap.size wz X) wz.heap.size
        [fbC (.pointer (some ⟨w1.heap.size, 1, none⟩)), fbC (.int .u64 (A2.toNat : Int)), fbC (.int .i64 u), fbC (.bool (hasB A2 u)), fbC (.pointer (some ⟨w1.heap.size, 2, none⟩)), fbC (.int .u64 (A3.toNat : Int)), fbC (.int .i64 u), fbC (.bool (hasB A3 u)), fbC (.bool (hasB A2 u)), fbC (.bool (hasB A3 u)), fbC (.int .i64 0)]
        [[], [], [], [], [], [], [], [], [], [], []] [[], [], [], [], [], [], [], [], [], [], []] [[], [0], [], [1, 2], [], [4], [], [5, 6], [3], [7], []]
        (fun a b h k => k.trans h) (by kernel_rfl) (by kernel_rfl) (by kernel_rfl) ⟨rfl, rfl, rfl, Nat.le_refl _, fun _ _ => rfl⟩ (Nat.le_refl _) ?_ (by kernel_rfl)
        ⟨good_C _ _, good_C _ _, good_C _ _, good_C _ _, good_C _ _, good_C _ _, good_C _ _, good_C _ _, good_C _ _, good_C _ _, good_C _ _, trivial⟩ (Nat.le_refl 11)
      simp only [putsL, Act.put, List.setIfInBounds_toArray, List.set_cons_zero, List.set_cons_succ, Nat.zero_add, Nat.reduceAdd]
      refine seqo_cons (obo_run rfl (fun vs W hD => rfl) (fun vs W hS hD => ?_)) ?_
      · go_simp; done
      refine seqo_cons (obo_run rfl (fun vs W hD => rfl) (fun vs W hS hD => ?_)) ?_
      · obtain ⟨_, v1, v2, v3⟩ := HX.out.later hS
        have h1 : vs 0 = _ := hD.1
        go_simp; done
      refine seqo_cons (obo_run rfl (fun vs W hD => rfl) (fun vs W hS hD => ?_)) ?_
      · go_simp; done
      refine seqo_cons (obo_call rfl (f := 39) (fun vs => #[.int .u64 (A2.toNat : Int), .int .i64 u]) (fun vs W hD => rfl) (fun vs W hS hD => ?_) (fun vs W hS hZ hD => ?_)) ?_
      · have h1 : vs 1 = _ := hD.1
        have h2 : vs 2 = _ := hD.2.1
        go_simp; done
      · exact (shas_any A2 u W).mono fun e W' h => ⟨h.1, h.2 ▸ Below.refl _ _⟩
      refine seqo_cons (obo_run rfl (fun vs W hD => rfl) (fun vs W hS hD => ?_)) ?_
      · go_simp; done
      refine seqo_cons (obo_run rfl (fun vs W hD => rfl) (fun vs W hS hD => ?_)) ?_
      · obtain ⟨_, v1, v2, v3⟩ := HX.out.later hS
        have h1 : vs 4 = _ := hD.1
        go_simp; done
      refine seqo_cons (obo_run rfl (fun vs W hD => rfl) (fun vs W hS hD => ?_)) ?_
      · go_simp; done
      refine seqo_cons (obo_call rfl (f := 39) (fun vs => #[.int .u64 (A3.toNat : Int), .int .i64 u]) (fun vs W hD => rfl) (fun vs W hS hD => ?_) (fun vs W hS hZ hD => ?_)) ?_
      · have h1 : vs 5 = _ := hD.1
        have h2 : vs 6 = _ := hD.2.1
        go_simp; done
      · exact (shas_any A3 u W).mono fun e W' h => ⟨h.1, h.2 ▸ Below.refl _ _⟩
      refine seqo_cons (obo_run rfl (fun vs W hD => rfl) (fun vs W hS hD => ?_)) ?_
      · have h1 : vs 3 = _ := hD.1
        go_simp; done
      refine seqo_cons (obo_run rfl (fun vs W hD => rfl) (fun vs W hS hD => ?_)) ?_
      · have h1 : vs 7 = _ := hD.1
        go_simp; done
      refine seqo_cons (obo_run rfl (fun vs W hD => rfl) (fun vs W hS hD => ?_)) ?_
      · go_simp; done
      refine seqo_end fun vs W hS hZ hv => ?_
      obtain ⟨k0, k1, k2, k3, k4, k5, k6, k7, k8, k9, k10, kz⟩ := hv
      have h0 : vs 0 = _ := k0 rfl
      have h1 : vs 1 = _ := k1 rfl
      have h2 : vs 2 = _ := k2 rfl
      have h3 : vs 3 = _ := k3 rfl
      have h4 : vs 4 = _ := k4 rfl
      have h5 : vs 5 = _ := k5 rfl
      have h6 : vs 6 = _ := k6 rfl
      have h7 : vs 7 = _ := k7 rfl
      have h8 : vs 8 = _ := k8 rfl
      have h9 : vs 9 = _ := k9 rfl
      have h10 : vs 10 = _ := k10 rfl
      have HBW := Lib.hid (Below.next HBz.out hS)
      simp only [h0, h1, h2, h3, h4, h5, h6, h7, h8, h9, h10]
      clear h0 h1 h2 h3 h4 h5 h6 h7 h8 h9 h10 k0 k1 k2 k3 k4 k5 k6 k7 k8 k9 k10 kz hS hZ
      go_wp2_with fail
      go_ret3
      exact ⟨retMay (by rw [HM2.out]; rfl) (by rw [HM3.out]; rfl) (by rw [HE.out, hk.out]; rfl), HBW.out⟩
  · have hv : ∀ f : RV → W64, ovV f ⟨r1, r2, r3, r4⟩ L = 0#64 := fun f => by unfold ovV; rw [if_neg hz]
    have HM : Hid (∀ f : RV → W64, mayB f u ⟨r1, r2, r3, r4⟩ L = false) := fun f => by unfold mayB; rw [decide_eq_false hz]; rfl
    have HE : Hid (mayE u ⟨r1, r2, r3, r4⟩ L = gcE ⟨r1, r2, r3, r4⟩ L) := by unfold Hid mayE; rw [if_neg hz]
    unfold overV rights3
    rw [hv] at HBz
    rw [hv] at HBz
    rw [hv] at HBz
    rw [hv, hv, hv]
    clear hv
    have hz1 : (gcE ⟨r1, r2, r3, r4⟩ L != 0) = true := by simpa using hz
    have hz2 : (gcE ⟨r1, r2, r3, r4⟩ L == 0) = false := by simpa using hz
    generalize gcE ⟨r1, r2, r3, r4⟩ L = g at *
    clear hz
    go_wp2_with fail
    go_ret3
    exact ⟨retMay (by rw [HM.out]) (by rw [HM.out]) (by rw [HE.out]), HBz.out⟩
end Go.Proofs.Ytigofjamednfpaa.Re
