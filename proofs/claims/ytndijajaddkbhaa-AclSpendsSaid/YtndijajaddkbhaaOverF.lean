/- The contracts of Over and May. -/
import Derived.Test.YtndijajaddkbhaaOverE
namespace Go.Proofs.Ytndijajaddkbhaa.Re
open Go.RowKit AM
/-- Rights in a block of their own. -/
def Box3 (w : World) (p : Nat) (x y z : Int) : Prop := p < w.heap.size ∧ w.cell? ⟨p, 0, none⟩ = some (.int .u64 x) ∧ w.cell? ⟨p, 1, none⟩ = some (.int .u64 y) ∧ w.cell? ⟨p, 2, none⟩ = some (.int .u64 z)
theorem Box3.later {w w' : World} {p : Nat} {x y z : Int} (h : Box3 w p x y z) (hB : Below w.heap.size w w') : Box3 w' p x y z := by
  obtain ⟨h0, h1, h2, h3⟩ := h
  have hc := (bcell hB).1
  exact ⟨Nat.lt_of_lt_of_le h0 hB.size, by rw [hc _ _ h0]; exact h1, by rw [hc _ _ h0]; exact h2, by rw [hc _ _ h0]; exact h3⟩
theorem Box3.start (w : World) (x y z : Int) (t : TypeId) : Box3 (w.alloc (.cells #[.int .u64 x, .int .u64 y, .int .u64 z] t)) w.heap.size x y z := ⟨by simp, by simp, by simp, by simp⟩
/-- The same, the block whole. -/
def Bl3 (w : World) (p : Nat) (x y z : Int) : Prop := w.heap[p]? = some (.cells #[.int .u64 x, .int .u64 y, .int .u64 z] 33)
theorem Bl3.lt {w : World} {p : Nat} {x y z : Int} (h : Bl3 w p x y z) : p < w.heap.size := (Array.getElem?_eq_some_iff.1 h).1
theorem Bl3.start (w : World) (x y z : Int) : Bl3 (w.alloc (.cells #[.int .u64 x, .int .u64 y, .int .u64 z] 33)) w.heap.size x y z := heap_alloc_new w _
theorem Bl3.later {w w' : World} {p : Nat} {x y z : Int} (h : Bl3 w p x y z) (hB : Below w.heap.size w w') : Bl3 w' p x y z := (hB.block p h.lt).trans h
theorem Bl3.cells {w : World} {p : Nat} {x y z : Int} (h : Bl3 w p x y z) : w.cell? ⟨p, 0, none⟩ = some (.int .u64 x) ∧ w.cell? ⟨p, 1, none⟩ = some (.int .u64 y) ∧ w.cell? ⟨p, 2, none⟩ = some (.int .u64 z) ∧
    w.frozen? ⟨p, 0, none⟩ = false ∧ w.frozen? ⟨p, 1, none⟩ = false ∧ w.frozen? ⟨p, 2, none⟩ = false := by
  unfold Bl3 at h
  refine ⟨?_, ?_, ?_, ?_, ?_, ?_⟩ <;> simp [World.cell?, World.frozen?, h]
theorem Bl3.set {w : World} {p : Nat} {x y z : Int} (h : Bl3 w p x y z) (x' y' z' : Int) :
    Bl3 (((w.setCell ⟨p, 0, none⟩ (.int .u64 x')).setCell ⟨p, 1, none⟩ (.int .u64 y')).setCell ⟨p, 2, none⟩ (.int .u64 z')) p x' y' z' ∧
    w.grownBy (((w.setCell ⟨p, 0, none⟩ (.int .u64 x')).setCell ⟨p, 1, none⟩ (.int .u64 y')).setCell ⟨p, 2, none⟩ (.int .u64 z')) (some p) := by
  have := set3 w p 33 _ _ _ (.int .u64 x') (.int .u64 y') (.int .u64 z') h
  exact ⟨this.2, this.1⟩
theorem ownP5_at {B : Nat} {w : World} {a : Option Addr} {n c : Nat} {D : List (R4 × Nat)} (h : OwnP5 B w (.slice a n c) D) (k : Nat) (hk : k < D.length) : ∃ g, a = some ⟨g, 0, none⟩ ∧ g < w.heap.size ∧
    w.cell? ⟨g, k * 5, none⟩ = some (.int .i64 D[k].1.c1) ∧ w.cell? ⟨g, k * 5 + 1, none⟩ = some (.int .i64 D[k].1.r1) ∧ w.cell? ⟨g, k * 5 + 2, none⟩ = some (.int .i64 D[k].1.c2) ∧ w.cell? ⟨g, k * 5 + 3, none⟩ = some (.int .i64 D[k].1.r2) ∧
    w.cell? ⟨g, k * 5 + 4, none⟩ = some (.int .i64 (D[k].2 : Int)) := by
  obtain ⟨a', c', e, hi⟩ := h.isOf cells5_len
  injection e with e1 e2 e3
  subst e1
  rcases h.2 with ⟨h1, h2⟩ | ⟨g, cp, cur, h1, hg, hh, _⟩
  · rw [← e2] at h2; rw [show D.length = 0 by omega] at hk; cases hk
  · injection h1 with h1 _ _
    subst h1
    obtain ⟨b, off, hb, hr⟩ := hi.2 (by omega)
    injection hb with hb
    injection hb with hb1 hb2
    subst hb1; subst hb2
    have key : ∀ (j : Nat) (v : Value), (cells5 D[k])[j]? = some v → w.cell? ⟨g, k * 5 + j, none⟩ = some v := fun j v hv => by
      have := hr.2 k hk j v hv
      rwa [Nat.zero_add] at this
    exact ⟨g, rfl, hr.1, key 0 _ rfl, key 1 _ rfl, key 2 _ rfl, key 3 _ rfl, key 4 _ rfl⟩
theorem findBad_zero (n : Nat) : ∀ (L : List RV) (i : Nat), (findBad n L i).2 = 0 ↔ ∀ j (hj : j < L.length), okRule n L[j] = true := by
  intro L
  induction L with
  | nil =>
    intro i
    constructor
    · intro _ j hj; exact absurd hj (by simp)
    · intro _; rfl
  | cons r L ih =>
    intro i
    unfold findBad
    cases h : okRule n r
    · rw [if_neg (by decide)]
      constructor
      · intro h0; unfold badE at h0; dsimp only at h0; split at h0 <;> omega
      · intro h0; have := h0 0 (by simp); simp [h] at this
    · rw [if_pos rfl, ih (i + 1)]
      constructor
      · intro h0 j hj
        cases j with
        | zero => exact h
        | succ j => exact h0 j (by simpa using hj)
      · intro h0 j hj; exact h0 (j + 1) (by simpa using hj)
/-- Valid rules. -/
theorem rck_zero {L : List RV} : (rck 64 L).2 = 0 ↔ 0 < L.length ∧ L.length ≤ 64 ∧ isSheet (ruleAt L 0) = true ∧ ∀ k, k < L.length → okRule 64 (ruleAt L k) = true := by
  constructor
  · intro h
    obtain ⟨h1, h2⟩ := rck_len h
    refine ⟨h1, h2, ?_⟩
    unfold rck at h
    rw [if_neg (by omega), if_neg (by omega)] at h
    rw [ruleAt_get h1, ← head_at L h1]
    split at h
    · rename_i hs
      refine ⟨hs, fun k hk => ?_⟩
      rw [findBad_zero] at h
      rw [ruleAt_get hk]; exact h k hk
    · simp at h
  · rintro ⟨h1, h2, h3, h4⟩
    rw [ruleAt_get h1, ← head_at L h1] at h3
    unfold rck
    rw [if_neg (by omega), if_neg (by omega), if_pos h3, findBad_zero]
    intro j hj
    rw [← ruleAt_get hj]; exact h4 j hj
theorem okRule_ck {n : Nat} {r : RV} (h : okRule n r = true) : (rr4 r).ck = true := by
  unfold okRule at h
  rw [Bool.and_eq_true] at h
  exact h.1
theorem gcE_zero {r : R4} {L : List RV} : gcE r L = 0 ↔ r.ck = true ∧ (rck 64 L).2 = 0 := by
  unfold gcE R4.ck
  split
  · rename_i h; simp [h]
  · rename_i h; simp [h]
/-- The rights over a range, none where the arguments are not valid. -/
def ovV (f : RV → W64) (r : R4) (L : List RV) : W64 := if gcE r L = 0 then ovr f r L else 0#64
def rights3 (a b c : W64) : Value := .agg #[.int .u64 (a.toNat : Int), .int .u64 (b.toNat : Int), .int .u64 (c.toNat : Int)]
def overV (r : R4) (L : List RV) : Value := .tuple #[rights3 (ovV RV.rd r L) (ovV RV.wr r L) (ovV RV.ow r L), .int .i64 (gcE r L)]
theorem downL_lt (L : List RV) : ∀ (i : Nat) (r : R4), ∀ x ∈ downL L i r, x.2 ≤ i
  | 0, r, x, hx => by
    unfold downL at hx
    split at hx
    · simp only [List.mem_singleton] at hx; subst hx; exact Nat.le_refl _
    · cases hx
  | i + 1, r, x, hx => by
    unfold downL at hx
    split at hx
    · rcases List.mem_cons.1 hx with rfl | hx
      · exact Nat.le_refl _
      · obtain ⟨y, _, hx⟩ := List.mem_flatMap.1 hx
        have := downL_lt L i y x hx; omega
    · have := downL_lt L i r x hx; omega
set_option maxRecDepth 100000 in
set_option maxHeartbeats 6400000 in
theorem over_any (r1 r2 r3 r4 : Int) (a : Option Addr) (len cap : Nat) (L : List RV) (hl : len ≤ 100000) (w : World) (hL : IsL w a len L) :
    Calls Try.prog 55 #[.agg #[.int .i64 r1, .int .i64 r2, .int .i64 r3, .int .i64 r4], .slice a len cap] w fun e w' => e = .returned (overV ⟨r1, r2, r3, r4⟩ L) ∧ Below w.heap.size w w' := by
  have HL := Lib.hid hL
  have HLL := Lib.hid hL.1
  clear hL
  go_enter Try.func55, Try.ntmps55
  have hF := Four.start w r1 r2 r3 r4 30
  have l1 := below_alloc w (.cells #[.int .i64 r1, .int .i64 r2, .int .i64 r3, .int .i64 r4] 30)
  have l2 := below_alloc (w.alloc (.cells #[.int .i64 r1, .int .i64 r2, .int .i64 r3, .int .i64 r4] 30)) (.cells #[.int .u64 0, .int .u64 0, .int .u64 0] 33)
  have hR := Bl3.start (w.alloc (.cells #[.int .i64 r1, .int .i64 r2, .int .i64 r3, .int .i64 r4] 30)) 0 0 0
  rw [World.size_alloc] at hR
  have HF := Lib.hid (hF.later l2)
  have HR := Lib.hid hR
  have HB := Lib.hid (Below.next l1 l2)
  clear hF hR l1 l2
  go_wp2_with fail
  generalize (w.alloc (.cells #[.int .i64 r1, .int .i64 r2, .int .i64 r3, .int .i64 r4] 30)).alloc (.cells #[.int .u64 0, .int .u64 0, .int .u64 0] 33) = w0 at *
  refine (gcheck_any r1 r2 r3 r4 a len cap L hl _ (HL.out.later HB.out)).mono ?_
  rintro e w1 ⟨rfl, hB1⟩
  have HF1 := Lib.hid (HF.out.later hB1)
  have HR1 := Lib.hid (HR.out.later hB1)
  have HB1 := Lib.hid (Below.next HB.out hB1)
  clear hB1 HF HR HB
  obtain ⟨_, e1, e2, e3, e4⟩ := HF1.out
  obtain ⟨q1, q2, q3, o1, o2, o3⟩ := HR1.out.cells
  have hr1l := HR1.out.lt
  have ones : ((BitVec.allOnes 64 : W64).toNat : Int) = 18446744073709551615 := by decide
  have HONE := Lib.hid ones
  clear ones
  by_cases hz : gcE ⟨r1, r2, r3, r4⟩ L = 0
  · obtain ⟨hrk, hrc⟩ := gcE_zero.1 hz
    obtain ⟨h0, h64, hsh, hok⟩ := rck_zero.1 hrc
    have HE : Hid (overV ⟨r1, r2, r3, r4⟩ L = .tuple #[rights3 (ovr RV.rd ⟨r1, r2, r3, r4⟩ L) (ovr RV.wr ⟨r1, r2, r3, r4⟩ L) (ovr RV.ow ⟨r1, r2, r3, r4⟩ L), .int .i64 0]) := by
      unfold Hid overV ovV; rw [hz, if_pos rfl, if_pos rfl, if_pos rfl]
    have HRK := Lib.hid hrk
    have HSH := Lib.hid hsh
    have HOK : Hid (∀ k, k < L.length → (rr4 (ruleAt L k)).ck = true) := fun k hk => okRule_ck (hok k hk)
    have hlen : len ≤ 64 := by rw [← HLL.out]; exact h64
    have hlen0 : 0 < len := by rw [← HLL.out]; exact h0
    have hdl := down_len L HOK.out (L.length - 1) ⟨r1, r2, r3, r4⟩ (by omega) hrk
    have har := area_max hrk
    rw [hz]
    clear hz hrk hrc h0 h64 hsh hok
    go_wp2_with fail
    have HB2 := Lib.hid (Below.next HB1.out (below_alloc w1 (.cells #[.int .u64 18446744073709551615, .int .u64 18446744073709551615, .int .u64 18446744073709551615] 33)))
    have HR2 := Lib.hid (HR1.out.later (below_alloc w1 (.cells #[.int .u64 18446744073709551615, .int .u64 18446744073709551615, .int .u64 18446744073709551615] 33)))
    have HV2 := Lib.hid (Bl3.start w1 18446744073709551615 18446744073709551615 18446744073709551615)
    have hs2 := World.size_alloc w1 (.cells #[.int .u64 18446744073709551615, .int .u64 18446744073709551615, .int .u64 18446744073709551615] 33)
    generalize w1.alloc (.cells #[.int .u64 18446744073709551615, .int .u64 18446744073709551615, .int .u64 18446744073709551615] 33) = w2 at *
    refine (cut_any r1 r2 r3 r4 a len cap L _ (HL.out.later HB2.out) HOK.out HSH.out hlen0 hlen HRK.out).mono ?_
    rintro e w3 ⟨⟨v, rfl, ho⟩, hB3⟩
    obtain ⟨pa, pc, rfl, hpi⟩ := ho.isOf cells5_len
    have HPA := Lib.hid ho
    have HB3 := Lib.hid (Below.next HB2.out hB3)
    have HV3 := Lib.hid (HV2.out.later hB3)
    have HR3 := Lib.hid (HR2.out.later hB3)
    have hs3 := hB3.size
    have HLT := Lib.hid (fun x (hx : x ∈ downL L (L.length - 1) ⟨r1, r2, r3, r4⟩) => downL_lt L (L.length - 1) ⟨r1, r2, r3, r4⟩ x hx)
    have HOV : Hid (∀ f : RV → W64, ovr f ⟨r1, r2, r3, r4⟩ L = ovW f L (downL L (L.length - 1) ⟨r1, r2, r3, r4⟩)) := fun f => rfl
    have hs1 := HB1.out.size
    clear ho hpi hB3 HB2 HV2 HR2 e1 e2 e3 e4 q1 q2 q3 o1 o2 o3 HF1 HR1 HB1
    generalize downL L (L.length - 1) ⟨r1, r2, r3, r4⟩ = D at *
    have hDn : D.length ≤ 1048576 := by omega
    clear hdl har
    generalize hnn : D.length = n at *
    have HNN := Lib.hid hnn
    clear hnn
    have hbase : w1.heap.size < w2.heap.size := by omega
    go_wp2_with fail
    go_loopw [23] (fun z wr => ∃ k : Nat, k ≤ n ∧ z = .int .i64 (k : Int) ∧ Hid (Bl3 wr w1.heap.size ((ovW RV.rd L (D.take k)).toNat : Int) ((ovW RV.wr L (D.take k)).toNat : Int) ((ovW RV.ow L (D.take k)).toNat : Int)) ∧ Hid (OwnP5 w2.heap.size wr (.slice pa n pc) D) ∧ Hid (Bl3 wr (w.heap.size + 1) 0 0 0) ∧ Below w.heap.size w wr) (fun z _ => n - (intOf z).toNat)
    case atStart => exact ⟨0, Nat.zero_le _, rfl, by rw [List.take_zero]; show Bl3 w3 w1.heap.size ((BitVec.allOnes 64 : W64).toNat : Int) ((BitVec.allOnes 64 : W64).toNat : Int) ((BitVec.allOnes 64 : W64).toNat : Int); rw [HONE.out]; exact HV3.out, HPA.out, HR3.out, HB3.out⟩
    case round =>
      obtain ⟨k, hk, rfl, HVr, HPr, HRr, hBr⟩ := hrel
      have HBr := Lib.hid hBr
      clear hBr
      by_cases hlt : k < n
      · have hkl : k < D.length := by rw [HNN.out]; exact hlt
        obtain ⟨g, rfl, hgl, c1, c2, c3, c4, c5⟩ := ownP5_at HPr.out k hkl
        have hx := HLT.out D[k] (List.getElem_mem hkl)
        have hstep : ∀ f : RV → W64, ovW f L (D.take (k + 1)) = ovW f L (D.take k) &&& f (ruleAt L D[k].2) := fun f => by
          rw [List.take_succ_eq_append_getElem hkl, ovW_snoc]
        have HSTEP := Lib.hid hstep
        clear hstep
        generalize D[k] = y at *
        obtain ⟨⟨y1, y2, y3, y4⟩, j⟩ := y
        dsimp only at *
        have hjl : j < len := by have := HLL.out; omega
        clear hx
        have hjL : j < L.length := by rw [HLL.out]; exact hjl
        obtain ⟨b, off, rfl, hrow⟩ := (HL.out.later HBr.out).2 hlen0
        have s := RowOf.seven hrow j hjL
        have hbl := hrow.1
        have HRA : Hid (ruleAt L j = L[j]) := ruleAt_get hjL
        clear hrow
        generalize L[j] = R at *
        obtain ⟨x1, x2, x3, x4, x5, x6, x7⟩ := R
        obtain ⟨_, _, _, _, s5, s6, s7⟩ := s
        obtain ⟨v1, v2, v3, f1, f2, f3⟩ := HVr.out.cells
        have hvl := HVr.out.lt
        have HA1 := Lib.hid (HSTEP.out RV.rd)
        have HA2 := Lib.hid (HSTEP.out RV.wr)
        have HA3 := Lib.hid (HSTEP.out RV.ow)
        rw [HRA.out] at HA1 HA2 HA3
        clear HSTEP
        generalize ovW RV.rd L (D.take k) = t1 at *
        generalize ovW RV.wr L (D.take k) = t2 at *
        generalize ovW RV.ow L (D.take k) = t3 at *
        dsimp only at *
        have HW1 := Lib.hid (bits_and t1 x5)
        have HW2 := Lib.hid (bits_and t2 x6)
        have HW3 := Lib.hid (bits_and t3 x7)
        go_wp2_with fail
        rw [HW1.out, HW2.out, HW3.out]
        obtain ⟨hv2, hgr⟩ := HVr.out.set ((t1 &&& x5).toNat : Int) ((t2 &&& x6).toNat : Int) ((t3 &&& x7).toNat : Int)
        have hown : OwnP5 w2.heap.size (((wr.setCell ⟨w1.heap.size, 0, none⟩ (.int .u64 ((t1 &&& x5).toNat : Int))).setCell ⟨w1.heap.size, 1, none⟩ (.int .u64 ((t2 &&& x6).toNat : Int))).setCell ⟨w1.heap.size, 2, none⟩ (.int .u64 ((t3 &&& x7).toNat : Int))) (.slice (some ⟨g, 0, none⟩) n pc) D :=
          ownsRow_setCell_below (ownsRow_setCell_below (ownsRow_setCell_below HPr.out hbase _) hbase _) hbase _
        have hres : Bl3 (((wr.setCell ⟨w1.heap.size, 0, none⟩ (.int .u64 ((t1 &&& x5).toNat : Int))).setCell ⟨w1.heap.size, 1, none⟩ (.int .u64 ((t2 &&& x6).toNat : Int))).setCell ⟨w1.heap.size, 2, none⟩ (.int .u64 ((t3 &&& x7).toNat : Int))) (w.heap.size + 1) 0 0 0 :=
          (hgr.block _ HRr.out.lt (by intro e; injection e with e; omega)).trans HRr.out
        have hbel := HBr.out.grown hgr HBr.out.size (fun q hq => by injection hq with hq; omega)
        clear hgr
        generalize ((wr.setCell ⟨w1.heap.size, 0, none⟩ (.int .u64 ((t1 &&& x5).toNat : Int))).setCell ⟨w1.heap.size, 1, none⟩ (.int .u64 ((t2 &&& x6).toNat : Int))).setCell ⟨w1.heap.size, 2, none⟩ (.int .u64 ((t3 &&& x7).toNat : Int)) = ws at *
        refine ⟨⟨k + 1, by omega, by go_num, ?_, (hown.alloc _).alloc _, (hres.later (below_alloc _ _)).later (below_alloc _ _), (hbel.alloc hbel.size _).alloc (by rw [World.size_alloc]; have := hbel.size; omega) _⟩, by simp [intOf]; omega⟩
        rw [HA1.out, HA2.out, HA3.out]
        exact (hv2.later (below_alloc _ _)).later (below_alloc _ _)
      · obtain rfl : k = n := by omega
        have HT : Hid (D.take k = D) := List.take_of_length_le (by rw [HNN.out]; exact Nat.le_refl _)
        rw [HT.out] at HVr
        have HD1 := Lib.hid (HOV.out RV.rd)
        have HD2 := Lib.hid (HOV.out RV.wr)
        have HD3 := Lib.hid (HOV.out RV.ow)
        generalize ovW RV.rd L D = t1 at *
        generalize ovW RV.wr L D = t2 at *
        generalize ovW RV.ow L D = t3 at *
        obtain ⟨v1, v2, v3, _⟩ := HVr.out.cells
        obtain ⟨q1, q2, q3, o1, o2, o3⟩ := HRr.out.cells
        have hvl := HVr.out.lt
        have hrl := HRr.out.lt
        go_wp2_with fail
        have hset := (HRr.out.set (t1.toNat : Int) (t2.toNat : Int) (t3.toNat : Int)).1.cells
        obtain ⟨z1, z2, z3, _⟩ := hset
        exact bodyPost_ret (v := .tuple #[.agg #[.int .u64 (t1.toNat : Int), .int .u64 (t2.toNat : Int), .int .u64 (t3.toNat : Int)], .int .i64 0]) (by simp [results, Try.results55, go_sem, z1, z2, z3]) rfl ⟨by rw [HE.out, HD1.out, HD2.out, HD3.out]; rfl, ((HBr.out.setCell (Nat.le_succ _) _).setCell (Nat.le_succ _) _).setCell (Nat.le_succ _) _⟩
  · have HZ := Lib.hid hz
    have HV : Hid (∀ f : RV → W64, ovV f ⟨r1, r2, r3, r4⟩ L = 0#64) := fun f => by unfold ovV; rw [if_neg hz]
    have HE : Hid (overV ⟨r1, r2, r3, r4⟩ L = .tuple #[.agg #[.int .u64 0, .int .u64 0, .int .u64 0], .int .i64 (gcE ⟨r1, r2, r3, r4⟩ L)]) := by unfold Hid overV; rw [HV.out, HV.out, HV.out]; rfl
    have hz1 : (gcE ⟨r1, r2, r3, r4⟩ L != 0) = true := by simpa using hz
    have hz2 : (gcE ⟨r1, r2, r3, r4⟩ L == 0) = false := by simpa using hz
    generalize gcE ⟨r1, r2, r3, r4⟩ L = g at *
    clear hz
    go_wp2_with fail
    exact bodyPost_ret (v := .tuple #[.agg #[.int .u64 0, .int .u64 0, .int .u64 0], .int .i64 g]) (by simp [results, Try.results55, go_sem, q1, q2, q3]) rfl ⟨by rw [HE.out], ((HB1.out.setCell (Nat.le_succ _) _).setCell (Nat.le_succ _) _).setCell (Nat.le_succ _) _⟩
end Go.Proofs.Ytndijajaddkbhaa.Re
