/- Merged: OverM OverA OverB OverC OverD OverE OverF OverG OverH OverI. -/
import Derived.Test.YthgnhdfppmoooaaAclC
import Derived.Test.YthgnhdfppmoooaaMro
import Derived.RangeFuncBox
import Derived.Test.YthgnhdfppmoooaaMseq
import Derived.Deep.CutRange
import Derived.Test.YthgnhdfppmoooaaAclD
import Derived.RegionTactic
/- The parts of a range by rules: mathematics. -/
namespace Go.Proofs.Ythgnhdfppmoooaa.Re
open Go.RowKit AM
/-- A rule's range. -/
def rr4 (r : RV) : R4 := ⟨r.c1, r.r1, r.c2, r.r2⟩
def meet4 (a b : R4) : R4 := ⟨max a.c1 b.c1, max a.r1 b.r1, min a.c2 b.c2, min a.r2 b.r2⟩
theorem rr4_has (r : RV) (p q : Int) : has4 (rr4 r) p q = hasR r p q := rfl
theorem meet4_has (a b : R4) (p q : Int) : has4 (meet4 a b) p q = true ↔ has4 a p q = true ∧ has4 b p q = true := by
  rw [has4_iff, has4_iff, has4_iff]
  unfold meet4
  dsimp only
  omega
theorem mt4_parts {a b : R4} (h : mt4 a b = true) : a.ck = true ∧ b.ck = true ∧ max a.c1 b.c1 ≤ min a.c2 b.c2 ∧ max a.r1 b.r1 ≤ min a.r2 b.r2 := by
  have hc := mtB_ck h
  refine ⟨hc.1, hc.2, ?_⟩
  unfold mt4 mtB at h
  simp only [Bool.and_eq_true, Bool.not_eq_true'] at h
  have hem := h.1
  unfold emB at hem
  have := of_decide_eq_false hem
  omega
theorem mt4_no {a b : R4} (ha : a.ck = true) (hb : b.ck = true) (h : ¬ mt4 a b = true) (p q : Int) (hp : has4 a p q = true) : has4 b p q = false := by
  rw [← Bool.not_eq_true]
  intro hq
  apply h
  rw [has4_iff] at hp hq
  unfold mt4 mtB
  unfold R4.ck at ha hb
  rw [ha, hb]
  have : emB (max a.c1 b.c1) (max a.r1 b.r1) (min a.c2 b.c2) (min a.r2 b.r2) = false := by
    unfold emB
    apply decide_eq_false
    omega
  rw [this]; rfl
theorem meet4_ck {a b : R4} (h : mt4 a b = true) : (meet4 a b).ck = true := by
  obtain ⟨ha, hb, h1, h2⟩ := mt4_parts h
  unfold R4.ck at ha hb ⊢
  rw [ckB_iff] at ha hb ⊢
  unfold meet4
  dsimp only
  omega
/-- What is cut out of a range by the rules up to one, and which rule each part has. -/
def downL (L : List RV) : Nat → R4 → List (R4 × Nat)
  | 0, r => if mt4 r (rr4 (ruleAt L 0)) = true then [(meet4 r (rr4 (ruleAt L 0)), 0)] else []
  | i + 1, r => if mt4 r (rr4 (ruleAt L (i + 1))) = true then (meet4 r (rr4 (ruleAt L (i + 1))), i + 1) :: (mnL r (meet4 r (rr4 (ruleAt L (i + 1))))).flatMap (downL L i) else downL L i r
theorem ruleAt_get {L : List RV} {k : Nat} (h : k < L.length) : ruleAt L k = L[k] := by unfold ruleAt; simp [List.getD, h]
theorem down_ok (L : List RV) (hL : ∀ k, k < L.length → (rr4 (ruleAt L k)).ck = true) : ∀ (i : Nat) (r : R4), i < L.length → r.ck = true →
    ∀ x ∈ downL L i r, x.1.ck = true ∧ x.2 ≤ i ∧ ∀ p q, has4 x.1 p q = true → has4 r p q = true ∧ lastI L p q (i + 1) = x.2
  | 0, r, hi, hr, x, hx => by
    unfold downL at hx
    by_cases hm : mt4 r (rr4 (ruleAt L 0)) = true
    · rw [if_pos hm] at hx
      simp only [List.mem_singleton] at hx
      subst hx
      exact ⟨meet4_ck hm, Nat.le_refl _, fun p q h => ⟨((meet4_has _ _ p q).1 h).1, lastI_one L p q⟩⟩
    · rw [if_neg hm] at hx; cases hx
  | i + 1, r, hi, hr, x, hx => by
    have hR := hL (i + 1) hi
    unfold downL at hx
    by_cases hm : mt4 r (rr4 (ruleAt L (i + 1))) = true
    · rw [if_pos hm] at hx
      rcases List.mem_cons.1 hx with rfl | hx
      · refine ⟨meet4_ck hm, Nat.le_refl _, fun p q h => ?_⟩
        obtain ⟨h1, h2⟩ := (meet4_has _ _ p q).1 h
        rw [rr4_has, ruleAt_get hi] at h2
        exact ⟨h1, lastI_t L p q (i + 1) hi h2⟩
      · obtain ⟨y, hy, hx⟩ := List.mem_flatMap.1 hx
        have hyck := (mnL_ck hr (meet4_ck hm)).1 y hy
        obtain ⟨g1, g2, g3⟩ := down_ok L hL i y (by omega) hyck x hx
        refine ⟨g1, by omega, fun p q h => ?_⟩
        obtain ⟨h1, h2⟩ := g3 p q h
        have hin := in_mn hr (meet4_ck hm) p q
        have : inL (mnL r (meet4 r (rr4 (ruleAt L (i + 1))))) p q = true := inL_iff.2 ⟨y, hy, h1⟩
        rw [this] at hin
        have hin := hin.symm
        rw [Bool.and_eq_true, Bool.not_eq_true', ← Bool.not_eq_true] at hin
        refine ⟨hin.1, ?_⟩
        have hno : hasR L[i + 1] p q = false := by
          rw [← Bool.not_eq_true]
          intro hh
          exact hin.2 ((meet4_has _ _ p q).2 ⟨hin.1, by rw [rr4_has, ruleAt_get hi]; exact hh⟩)
        rw [lastI_f L p q (i + 1) hi hno]
        exact h2
    · rw [if_neg hm] at hx
      obtain ⟨g1, g2, g3⟩ := down_ok L hL i r (by omega) hr x hx
      refine ⟨g1, by omega, fun p q h => ?_⟩
      obtain ⟨h1, h2⟩ := g3 p q h
      have hno := mt4_no hr hR hm p q h1
      rw [rr4_has, ruleAt_get hi] at hno
      exact ⟨h1, by rw [lastI_f L p q (i + 1) hi hno]; exact h2⟩
theorem down_cov (L : List RV) (hL : ∀ k, k < L.length → (rr4 (ruleAt L k)).ck = true) (h0 : isSheet (ruleAt L 0) = true) : ∀ (i : Nat) (r : R4), i < L.length → r.ck = true → ∀ p q, has4 r p q = true → ∃ x ∈ downL L i r, has4 x.1 p q = true
  | 0, r, hi, hr, p, q, h => by
    unfold downL
    have hs : has4 (rr4 (ruleAt L 0)) p q = true := by
      unfold isSheet at h0
      have h0 := of_decide_eq_true h0
      unfold R4.ck at hr
      rw [ckB_iff] at hr
      rw [has4_iff] at h ⊢
      unfold rr4
      dsimp only
      omega
    by_cases hm : mt4 r (rr4 (ruleAt L 0)) = true
    · rw [if_pos hm]
      exact ⟨_, List.mem_singleton.2 rfl, (meet4_has _ _ p q).2 ⟨h, hs⟩⟩
    · have := mt4_no hr (hL 0 hi) hm p q h
      rw [hs] at this; cases this
  | i + 1, r, hi, hr, p, q, h => by
    unfold downL
    by_cases hm : mt4 r (rr4 (ruleAt L (i + 1))) = true
    · rw [if_pos hm]
      by_cases hin : has4 (rr4 (ruleAt L (i + 1))) p q = true
      · exact ⟨_, List.mem_cons_self .., (meet4_has _ _ p q).2 ⟨h, hin⟩⟩
      · have hi2 := in_mn hr (meet4_ck hm) p q
        have : has4 (meet4 r (rr4 (ruleAt L (i + 1)))) p q = false := by
          rw [← Bool.not_eq_true]; intro hh; exact hin ((meet4_has _ _ p q).1 hh).2
        rw [h, this] at hi2
        obtain ⟨y, hy, h1⟩ := inL_iff.1 hi2
        obtain ⟨x, hx, h2⟩ := down_cov L hL h0 i y (by omega) ((mnL_ck hr (meet4_ck hm)).1 y hy) p q h1
        exact ⟨x, List.mem_cons_of_mem _ (List.mem_flatMap.2 ⟨y, hy, hx⟩), h2⟩
    · rw [if_neg hm]
      exact down_cov L hL h0 i r (by omega) hr p q h
/-- A valid range has an address. -/
theorem ck_has {r : R4} (h : r.ck = true) : has4 r r.c1 r.r1 = true := by
  unfold R4.ck at h
  rw [ckB_iff] at h
  rw [has4_iff]
  omega
/-- The sets of all parts, met. -/
def ovW (f : RV → W64) (L : List RV) (l : List (R4 × Nat)) : W64 := l.foldl (fun a x => a &&& f (ruleAt L x.2)) (BitVec.allOnes 64)
theorem ovW_snoc (f : RV → W64) (L : List RV) (l : List (R4 × Nat)) (x : R4 × Nat) : ovW f L (l ++ [x]) = ovW f L l &&& f (ruleAt L x.2) := by unfold ovW; simp
theorem fold_bit (f : RV → W64) (L : List RV) (b : Nat) : ∀ (l : List (R4 × Nat)) (a : W64), (l.foldl (fun a x => a &&& f (ruleAt L x.2)) a).getLsbD b = (a.getLsbD b && l.all fun x => (f (ruleAt L x.2)).getLsbD b)
  | [], a => by simp
  | x :: l, a => by rw [List.foldl_cons, fold_bit f L b l, BitVec.getLsbD_and, List.all_cons, Bool.and_assoc]
theorem ovW_bit (f : RV → W64) (L : List RV) (l : List (R4 × Nat)) (b : Nat) (hb : b < 64) : (ovW f L l).getLsbD b = l.all fun x => (f (ruleAt L x.2)).getLsbD b := by
  unfold ovW
  have h1 : (BitVec.allOnes 64).getLsbD b = true := by rw [BitVec.getLsbD_allOnes]; exact decide_eq_true hb
  rw [fold_bit, h1, Bool.true_and]
/-- The rights over a range. -/
def ovr (f : RV → W64) (r : R4) (L : List RV) : W64 := ovW f L (downL L (L.length - 1) r)
theorem ovr_bit {f : RV → W64} {r : R4} {L : List RV} (hr : r.ck = true) (h1 : 0 < L.length) (hL : ∀ k, k < L.length → (rr4 (ruleAt L k)).ck = true) (h0 : isSheet (ruleAt L 0) = true) {b : Nat} (hb : b < 64) :
    (ovr f r L).getLsbD b = true ↔ ∀ p q, has4 r p q = true → (f (ruleAt L (lastI L p q L.length))).getLsbD b = true := by
  unfold ovr
  rw [ovW_bit f L _ b hb, List.all_eq_true]
  have hlen : L.length - 1 + 1 = L.length := by omega
  constructor
  · intro h p q hh
    obtain ⟨x, hx, hxh⟩ := down_cov L hL h0 (L.length - 1) r (by omega) hr p q hh
    obtain ⟨_, _, g⟩ := down_ok L hL (L.length - 1) r (by omega) hr x hx
    have := (g p q hxh).2
    rw [hlen] at this
    rw [this]
    exact h x hx
  · intro h x hx
    obtain ⟨g1, _, g⟩ := down_ok L hL (L.length - 1) r (by omega) hr x hx
    have hx1 := ck_has g1
    obtain ⟨h2, h3⟩ := g _ _ hx1
    rw [hlen] at h3
    rw [← h3]
    exact h _ _ h2
end Go.Proofs.Ythgnhdfppmoooaa.Re
/- Contract of region.check. -/
namespace Go.Proofs.Ythgnhdfppmoooaa.Re
open Go.RowKit AM
def gcE (r : R4) (L : List RV) : Int := if ckB r.c1 r.r1 r.c2 r.r2 = true then (rck 64 L).2 else 3
theorem retI {a b : Int} (h : a = b) : Ending.returned (.int .i64 a) = .returned (.int .i64 b) := by rw [h]
set_option maxHeartbeats 1600000 in
theorem gcheck_any (x1 x2 x3 x4 : Int) (a : Option Addr) (len cap : Nat) (L : List RV) (hl : len ≤ 100000) (w : World) (hL : IsL w a len L) :
    Calls Try.prog 10 #[.agg #[.int .i64 x1, .int .i64 x2, .int .i64 x3, .int .i64 x4], .slice a len cap] w fun e w' => e = .returned (.int .i64 (gcE ⟨x1, x2, x3, x4⟩ L)) ∧ Below w.heap.size w w' := by
  have HL := Lib.hid hL
  clear hL
  have l1 := Lib.hid (below_alloc w (.cells #[.int .i64 x1, .int .i64 x2, .int .i64 x3, .int .i64 x4] 23))
  go_enter Try.func10, Try.ntmps10
  go_wp2_with fail
  refine (rcheck_any x1 x2 x3 x4 _).mono ?_
  rintro e w1 ⟨rfl, hB1⟩
  have HB1 := Lib.hid (Below.next l1.out hB1)
  clear hB1 l1
  cases hc : ckB x1 x2 x3 x4
  · have HC := Lib.hid hc
    rw [ckE_f hc]
    clear hc
    go_wp2_with fail
    go_ret
    exact ⟨retI (by unfold gcE; rw [if_neg (by rw [HC.out]; decide)]), HB1.out⟩
  · have HC := Lib.hid hc
    rw [ckE_t hc]
    clear hc
    go_wp2_with fail
    refine (acheck_any 64 a len cap L hl _ (HL.out.later HB1.out)).mono ?_
    rintro e w2 ⟨rfl, hB2⟩
    have HB2 := Lib.hid (Below.next HB1.out hB2)
    clear hB2 HB1
    unfold ckV
    go_wp2_with fail
    go_ret
    exact ⟨retI (by unfold gcE; rw [if_pos HC.out]), HB2.out⟩
/-- At the first rule nothing is left. -/
theorem mnL_meet {r s : R4} (hr : r.ck = true) (hs : ∀ p q, has4 r p q = true → has4 s p q = true) (hm : mt4 r s = true) : mnL r (meet4 r s) = [] := by
  cases h : mnL r (meet4 r s) with
  | nil => rfl
  | cons y l =>
    have hy : y ∈ mnL r (meet4 r s) := by rw [h]; exact List.mem_cons_self ..
    have h1 := ck_has ((mnL_ck hr (meet4_ck hm)).1 y hy)
    have h2 := in_mn hr (meet4_ck hm) y.c1 y.r1
    rw [inL_iff.2 ⟨y, hy, h1⟩] at h2
    have h2 := h2.symm
    rw [Bool.and_eq_true, Bool.not_eq_true', ← Bool.not_eq_true] at h2
    exact absurd ((meet4_has r s y.c1 y.r1).2 ⟨h2.1, hs _ _ h2.1⟩) h2.2
end Go.Proofs.Ythgnhdfppmoooaa.Re
/- Parts of a range: how many there are; the list that down appends to, and what it leaves as it is. -/
namespace Go.Proofs.Ythgnhdfppmoooaa.Re
open Go.RowKit AM
theorem area_sum1 (W A X Y mh B mw H : Int) (h1 : X + Y = W - mw) (h2 : A + mh + B = H) : W * A + (X * mh + (Y * mh + (W * B + 0))) + mw * mh = W * H := by
  have e1 : X * mh + Y * mh = W * mh - mw * mh := by rw [← Int.add_mul, h1, Int.sub_mul]
  have e2 : W * H = W * A + W * mh + W * B := by rw [← h2, Int.mul_add, Int.mul_add]
  omega
theorem mnL_area {a b : R4} (ha : a.ck = true) (hb : b.ck = true) (hm : mt4 a b = true) : areas (mnL a b) + 1 ≤ area4 a := by
  obtain ⟨_, _, hn1, hn2⟩ := mt4_parts hm
  unfold mnL
  rw [ha, hb]
  simp only [Bool.and_self, if_true]
  rw [if_pos hm]
  obtain ⟨a1, a2, a3, a4⟩ := a
  obtain ⟨b1, b2, b3, b4⟩ := b
  unfold R4.ck at ha hb
  rw [ckB_iff] at ha hb
  dsimp only at *
  rw [areas_some]
  · unfold cut4 areas area4
    simp only [List.map_cons, List.map_nil, List.sum_cons, List.sum_nil]
    have := area_sum1 (a3 - a1 + 1) (max a2 b2 - a2) (max a1 b1 - a1) (a3 - min a3 b3) (min a4 b4 - max a2 b2 + 1) (a4 - min a4 b4) (min a3 b3 - max a1 b1 + 1) (a4 - a2 + 1) (by omega) (by omega)
    have h1 : 1 * 1 ≤ (min a3 b3 - max a1 b1 + 1) * (min a4 b4 - max a2 b2 + 1) := Int.mul_le_mul (by omega) (by omega) (by decide) (by omega)
    rw [show max a2 b2 - 1 - a2 + 1 = max a2 b2 - a2 by omega, show max a1 b1 - 1 - a1 + 1 = max a1 b1 - a1 by omega, show a3 - (min a3 b3 + 1) + 1 = a3 - min a3 b3 by omega, show a4 - (min a4 b4 + 1) + 1 = a4 - min a4 b4 by omega]
    omega
  · intro r hr hE
    unfold R4.em emB at hE
    have hE2 := of_decide_eq_true hE
    unfold cut4 at hr
    simp only [List.mem_cons, List.not_mem_nil, or_false] at hr
    unfold area4
    rcases hr with rfl | rfl | rfl | rfl <;> dsimp only at *
    · exact zero_r (by omega)
    · exact zero_l (by omega)
    · exact zero_l (by omega)
    · exact zero_r (by omega)
theorem flat_sum {f : R4 → List (R4 × Nat)} : ∀ (l : List R4), (∀ y ∈ l, ((f y).length : Int) ≤ area4 y) → ((l.flatMap f).length : Int) ≤ areas l
  | [], _ => by simp [areas]
  | y :: l, h => by
    have h1 := flat_sum l fun x hx => h x (List.mem_cons_of_mem _ hx)
    have h2 := h y (List.mem_cons_self ..)
    have e : areas (y :: l) = area4 y + areas l := by unfold areas; simp
    rw [e, List.flatMap_cons, List.length_append]
    omega
theorem mt4_meet {a b : R4} (h : mt4 a b = true) : mt4 a (meet4 a b) = true := by
  have hc := meet4_ck h
  obtain ⟨ha, hb, h1, h2⟩ := mt4_parts h
  have e : emB (max a.c1 (meet4 a b).c1) (max a.r1 (meet4 a b).r1) (min a.c2 (meet4 a b).c2) (min a.r2 (meet4 a b).r2) = false := by
    unfold emB meet4
    apply decide_eq_false
    dsimp only
    omega
  unfold R4.ck at ha hc
  unfold mt4 mtB
  rw [e, ha, hc]; rfl
theorem down_len (L : List RV) (hL : ∀ k, k < L.length → (rr4 (ruleAt L k)).ck = true) : ∀ (i : Nat) (r : R4), i < L.length → r.ck = true → ((downL L i r).length : Int) ≤ area4 r
  | 0, r, hi, hr => by
    have := area_pos hr
    unfold downL
    split
    · simp only [List.length_singleton]; omega
    · simp only [List.length_nil]; omega
  | i + 1, r, hi, hr => by
    unfold downL
    by_cases hm : mt4 r (rr4 (ruleAt L (i + 1))) = true
    · rw [if_pos hm, List.length_cons]
      have h1 := mnL_area hr (meet4_ck hm) (mt4_meet hm)
      have h2 := flat_sum (f := downL L i) (mnL r (meet4 r (rr4 (ruleAt L (i + 1))))) fun y hy => down_len L hL i y (by omega) ((mnL_ck hr (meet4_ck hm)).1 y hy)
      omega
    · rw [if_neg hm]
      exact down_len L hL i r (by omega) hr
/-- What the first k rests have given, and the next one, fits. -/
theorem rest_fits (L : List RV) (hL : ∀ k, k < L.length → (rr4 (ruleAt L k)).ck = true) (i : Nat) (hi : i < L.length) {N : Int} {l : List R4} (hl : ∀ y ∈ l, y.ck = true) (hN : areas l ≤ N) (k : Nat) (hk : k < l.length) :
    (((l.take k).flatMap (downL L i)).length : Int) + area4 l[k] ≤ N := by
  have h1 := flat_sum (f := downL L i) (l.take k) fun y hy => down_len L hL i y hi (hl y (List.mem_of_mem_take hy))
  have e : areas l = areas (l.take k) + (area4 l[k] + areas (l.drop (k + 1))) := by
    have h3 : areas (l[k] :: l.drop (k + 1)) = area4 l[k] + areas (l.drop (k + 1)) := by unfold areas; rw [List.map_cons, List.sum_cons]
    rw [← h3, ← List.drop_eq_getElem_cons hk, ← areas_app, List.take_append_drop]
  have h2 := len_areas (l := l.drop (k + 1)) fun y hy => hl y (List.mem_of_mem_drop hy)
  omega
/-! The list of parts -/
def cells5 (x : R4 × Nat) : List Value := [.int .i64 x.1.c1, .int .i64 x.1.r1, .int .i64 x.1.c2, .int .i64 x.1.r2, .int .i64 (x.2 : Int)]
theorem cells5_len (x : R4 × Nat) : (cells5 x).length = 5 := rfl
theorem cells5_one (x : R4 × Nat) : ∀ u ∈ cells5 x, u.oneCell' = true := by
  intro u hu; simp [cells5] at hu; rcases hu with rfl | rfl | rfl | rfl | rfl <;> rfl
theorem infoPart : (Try.prog.info? 39).map (fun i => (i.zero, i.size, i.bytes)) = some (some (.agg #[.int .i64 0, .int .i64 0, .int .i64 0, .int .i64 0, .int .i64 0]), 5, 40) := by kernel_rfl
abbrev OwnP5 (B : Nat) (w : World) (v : Value) (P : List (R4 × Nat)) : Prop := OwnOf 39 cells5 5 B w v P
/-- Between two worlds nothing has turned but one box and one row. -/
structure Dn (lb : Nat) (row : Option Nat) (w w' : World) : Prop where
  os : w'.os = w.os
  tape : w'.tape = w.tape
  output : w'.output = w.output
  size : w.heap.size ≤ w'.heap.size
  block : ∀ k, k < w.heap.size → k ≠ lb → some k ≠ row → w'.heap[k]? = w.heap[k]?
/-- A row that stayed, or is new. -/
def Rw (n : Nat) (row row' : Option Nat) : Prop := row' = row ∨ ∃ g, row' = some g ∧ n ≤ g
theorem Dn.refl (lb : Nat) (row : Option Nat) (w : World) : Dn lb row w w := ⟨rfl, rfl, rfl, Nat.le_refl _, fun _ _ _ _ => rfl⟩
theorem Dn.trans {lb : Nat} {row row1 : Option Nat} {a b c : World} (h : Dn lb row a b) (hr : Rw a.heap.size row row1) (k : Dn lb row1 b c) : Dn lb row a c :=
  ⟨k.os.trans h.os, k.tape.trans h.tape, k.output.trans h.output, Nat.le_trans h.size k.size, fun i hi h1 h2 =>
    (k.block i (Nat.lt_of_lt_of_le hi h.size) h1 (by
      rcases hr with rfl | ⟨g, rfl, hg⟩
      · exact h2
      · intro e; injection e with e; omega)).trans (h.block i hi h1 h2)⟩
theorem Rw.trans {n m : Nat} {a b c : Option Nat} (h : Rw n a b) (hn : n ≤ m) (k : Rw m b c) : Rw n a c := by
  rcases k with rfl | ⟨g, rfl, hg⟩
  · exact h
  · exact .inr ⟨g, rfl, by omega⟩
theorem Rw.refl (n : Nat) (a : Option Nat) : Rw n a a := .inl rfl
theorem Rw.mono {n m : Nat} {a b : Option Nat} (h : Rw n a b) (hn : m ≤ n) : Rw m a b := by
  rcases h with rfl | ⟨g, rfl, hg⟩
  · exact .inl rfl
  · exact .inr ⟨g, rfl, by omega⟩
theorem Dn.of_below {lb : Nat} {row : Option Nat} {w w' : World} (h : Below w.heap.size w w') : Dn lb row w w' := ⟨h.os, h.tape, h.output, h.size, fun k hk _ _ => h.block k hk⟩
theorem Dn.below {lb : Nat} {row : Option Nat} {w w' : World} (h : Dn lb row w w') {B : Nat} (hB : B ≤ w.heap.size) (h1 : B ≤ lb) (h2 : ∀ g, row = some g → B ≤ g) : Below B w w' :=
  ⟨h.os, h.tape, h.output, h.size, fun k hk => h.block k (by omega) (by omega) (fun e => by have := h2 k e.symm; omega)⟩
theorem Dn.cell {lb : Nat} {row : Option Nat} {w w' : World} (h : Dn lb row w w') {p : Addr} {v : Value} (hp : p.block < w.heap.size) (h1 : p.block ≠ lb) (h2 : some p.block ≠ row) (hv : w.cell? p = some v) : w'.cell? p = some v :=
  (World.cell?_of_block (w := w) (h.block p.block hp h1 h2)).trans hv
theorem Dn.cell' {lb : Nat} {row : Option Nat} {w w' : World} (h : Dn lb row w w') {p : Addr} (hp : p.block < w.heap.size) (h1 : p.block ≠ lb) (h2 : some p.block ≠ row) : w'.cell? p = w.cell? p :=
  World.cell?_of_block (w := w) (h.block p.block hp h1 h2)
theorem Dn.boxed {lb : Nat} {row : Option Nat} {w w' : World} (h : Dn lb row w w') {B : Nat} {t : TypeId} {v : Value} (hv : Boxed w B t v) (h1 : B ≠ lb) (h2 : some B ≠ row) : Boxed w' B t v := (h.block B hv.lt h1 h2).trans hv
end Go.Proofs.Ythgnhdfppmoooaa.Re
/- The contract of down: what it appends to the list of parts. -/
namespace Go.Proofs.Ythgnhdfppmoooaa.Re
open Go.RowKit AM
abbrev ptrV (b : Nat) : Value := .pointer (some ⟨b, 0, none⟩)
/-- What down finds: the boxes of the rules, of the list and of itself, and the list so far. -/
structure Sd (W0 : World) (A : Option Addr) (len cap : Nat) (w : World) (v : Value) (P : List (R4 × Nat)) : Prop where
  bel : Below W0.heap.size W0 w
  rbx : Boxed w (W0.heap.size + 1) 24 (.slice A len cap)
  lbx : Boxed w (W0.heap.size + 2) 36 v
  dbx : Boxed w (W0.heap.size + 3) 61 (.func (.func 23) #[] #[ptrV (W0.heap.size + 1), ptrV (W0.heap.size + 3), ptrV (W0.heap.size + 2)])
  own : OwnP5 W0.heap.size w v P
/-- What it leaves as it was. -/
structure St (n : Nat) (w : World) (v : Value) (w' : World) (v' : Value) : Prop where
  dn : Dn (n + 2) v.ownBlock w w'
  rw : Rw w.heap.size v.ownBlock v'.ownBlock
section
variable {W0 w w1 w' : World} {A : Option Addr} {len cap : Nat} {v v1 v' : Value} {P : List (R4 × Nat)} {n : Nat}
theorem St.refl (n : Nat) (w : World) (v : Value) : St n w v w v := ⟨Dn.refl _ _ _, Rw.refl _ _⟩
theorem St.trans (h : St n w v w1 v1) (k : St n w1 v1 w' v') : St n w v w' v' := ⟨h.dn.trans h.rw k.dn, h.rw.trans h.dn.size k.rw⟩
theorem St.of_below (h : Below w.heap.size w w') : St n w v w' v := ⟨Dn.of_below h, Rw.refl _ _⟩
theorem Sd.below (h : Sd W0 A len cap w v P) (hB : Below w.heap.size w w') : Sd W0 A len cap w' v P :=
  ⟨Below.next h.bel hB, (hB.block _ h.rbx.lt).trans h.rbx, (hB.block _ h.lbx.lt).trans h.lbx, (hB.block _ h.dbx.lt).trans h.dbx, h.own.later hB⟩
theorem Sd.row (h : Sd W0 A len cap w v P) : ∀ g, v.ownBlock = some g → W0.heap.size ≤ g ∧ g < w.heap.size := World.ownsRow.lt h.own
/-- Behind an append to the list. -/
theorem Sd.appended {tmp : Obj} {x : R4 × Nat} (h : Sd W0 A len cap w v P) (hown : OwnP5 W0.heap.size w1 v' (P ++ [x])) (hg : (w.alloc tmp).grownBy w1 v.ownBlock) (hr : v'.ownBlock = v.ownBlock ∨ v'.ownBlock = some (w.alloc tmp).heap.size) :
    Boxed w1 (W0.heap.size + 2) 36 v ∧ Sd W0 A len cap (w1.setCell ⟨W0.heap.size + 2, 0, none⟩ v') v' (P ++ [x]) ∧ St W0.heap.size w v (w1.setCell ⟨W0.heap.size + 2, 0, none⟩ v') v' := by
  have hn0 : W0.heap.size ≤ w.heap.size := h.bel.size
  obtain ⟨g1, g2, g3, _, g5⟩ := Boxed.appended h.lbx (by decide) h.own hn0 (by omega) hown hg
  have hsz := hg.size
  rw [World.size_alloc] at hsz
  have other : ∀ {B : Nat} {t : TypeId} {u : Value}, t ≠ 39 → B ≠ W0.heap.size + 2 → Boxed w B t u → Boxed (w1.setCell ⟨W0.heap.size + 2, 0, none⟩ v') B t u := fun ht hB hb =>
    ((hb.alloc tmp).kept hg (hb.not_row ht h.own)).other hB v'
  refine ⟨g1, ⟨h.bel.trans g5, other (by decide) (by omega) h.rbx, g2, other (by decide) (by omega) h.dbx, g3⟩, ⟨⟨hg.os, hg.tape, hg.output, ?_, fun k hk h1 h2 => ?_⟩, ?_⟩⟩
  · simp only [World.setCell, Array.size_modify]; omega
  · rw [Below.heap_setCell _ _ _ _ h1, hg.block k (by rw [World.size_alloc]; omega) h2]
    exact Below.heap_alloc _ _ _ hk
  · rcases hr with hr | hr
    · exact .inl hr
    · exact .inr ⟨_, hr, by rw [World.size_alloc]; omega⟩
theorem St.boxed (h : St n w v w' v') {B : Nat} {t : TypeId} {u : Value} (hb : Boxed w B t u) (h1 : B ≠ n + 2) (h2 : some B ≠ v.ownBlock) : Boxed w' B t u := h.dn.boxed hb h1 h2
end
/-- The rows of a call's own list of ranges. -/
theorem ownR_row {B : Nat} {w : World} {v : Value} {l : List R4} (h : OwnR B w v l) : ∃ a cap, v = .slice a l.length cap ∧ (0 < l.length → ∃ g, a = some ⟨g, 0, none⟩ ∧ B ≤ g ∧ RRow w g 0 l) := by
  obtain ⟨a, cap, hv, hi⟩ := h.isR
  refine ⟨a, cap, hv, fun h0 => ?_⟩
  obtain ⟨b, off, he, hr⟩ := hi.2 h0
  rcases h.2 with ⟨h1, h2⟩ | ⟨g, cp, cur, h1, hg, _⟩
  · omega
  · rw [h1] at hv
    injection hv with e1 e2 e3
    rw [he] at e1
    injection e1 with e1
    injection e1 with e4 e5
    subst e4; subst e5
    exact ⟨g, he, hg, hr⟩
theorem RRow.far {w w' : World} {g : Nat} {l : List R4} (h : RRow w g 0 l) (hb : w'.heap[g]? = w.heap[g]?) (hs : w.heap.size ≤ w'.heap.size) : RRow w' g 0 l :=
  ⟨Nat.lt_of_lt_of_le h.1 hs, fun k hk => by
    obtain ⟨c1, c2, c3, c4⟩ := h.2 k hk
    have key : ∀ j, w'.cell? ⟨g, j, none⟩ = w.cell? ⟨g, j, none⟩ := fun j => World.cell?_of_block (a := ⟨g, j, none⟩) hb
    exact ⟨(key _).trans c1, (key _).trans c2, (key _).trans c3, (key _).trans c4⟩⟩
theorem Four.dn {lb : Nat} {row : Option Nat} {w w' : World} {p : Nat} {a b c d : Int} (h : Four w p a b c d) (hd : Dn lb row w w') (h1 : p ≠ lb) (h2 : some p ≠ row) : Four w' p a b c d := by
  obtain ⟨h0, c1, c2, c3, c4⟩ := h
  exact ⟨Nat.lt_of_lt_of_le h0 hd.size, hd.cell h0 h1 h2 c1, hd.cell h0 h1 h2 c2, hd.cell h0 h1 h2 c3, hd.cell h0 h1 h2 c4⟩
theorem St.four {n : Nat} {w w' : World} {v v' : Value} {p : Nat} {a b c d : Int} (h : St n w v w' v') (hf : Four w p a b c d) (h1 : p ≠ n + 2) (h2 : ∀ q, v.ownBlock = some q → q < p) : Four w' p a b c d :=
  Four.dn hf h.dn h1 (fun e => by have := h2 p e.symm; omega)
section
theorem wpList_appP {ops : Array Oper} {rest : List Oper} {o : Oper} {a : Act} {w : World} {Q : Exit → Act → World → Prop} (hgd : o.guard = none) (s x : Operand)
    (ho : o.op = .call { callee := .builtin .append, args := #[s, x], argTypes := #[36, 36] }) (B : Nat) (v : Value) (P : List (R4 × Nat)) (hs : a.eval s = v) (hown : OwnP5 B w v P)
    (g : Nat) (y : R4 × Nat) (hx : a.eval x = .slice (some ⟨g, 0, none⟩) 1 1) (hM : IsOf cells5 5 w (some ⟨g, 0, none⟩) 1 [y]) (hl : P.length ≤ 2000000) (hB : B ≤ w.heap.size)
    (h : ∀ v' w', OwnP5 B w' v' (P ++ [y]) → w.grownBy w' v.ownBlock → (v'.ownBlock = v.ownBlock ∨ v'.ownBlock = some w.heap.size) → wpList Try.prog ops Q rest (a.put o.dst v') w') : wpList Try.prog ops Q (o :: rest) a w := by
  obtain ⟨i0, hi, hz0, hz1, hz2⟩ := info_parts infoPart
  refine wpList_append_any w hgd s x 36 ho B 39 i0 _ 5 40 Try.underlying36 hi hz0 hz1 hz2 rfl (by decide) v P.length (P.flatMap cells5) hs hown w.heap.size _ 1 1 ([y].flatMap cells5) hx (hM.reads cells5_len) ?_ ?_ ?_ hB ?_
  · intro u hu
    obtain ⟨z, _, hz⟩ := List.mem_flatMap.1 hu
    exact cells5_one z u hz
  · unfold maxLen; omega
  · omega
  · intro v' w' ho' hg hr
    refine h v' w' ?_ hg hr
    unfold OwnP5 OwnOf
    rw [List.length_append, List.flatMap_append]; exact ho'
end
theorem set4 (w : World) (g : Nat) (t : TypeId) (x y z u x' y' z' u' : Value) (h : w.heap[g]? = some (.cells #[x, y, z, u] t)) :
    w.grownBy ((((w.setCell ⟨g, 0, none⟩ x').setCell ⟨g, 1, none⟩ y').setCell ⟨g, 2, none⟩ z').setCell ⟨g, 3, none⟩ u') (some g) ∧ ((((w.setCell ⟨g, 0, none⟩ x').setCell ⟨g, 1, none⟩ y').setCell ⟨g, 2, none⟩ z').setCell ⟨g, 3, none⟩ u').heap[g]? = some (.cells #[x', y', z', u'] t) := by
  refine ⟨⟨rfl, rfl, rfl, by simp [World.setCell], fun k hk hne => ?_⟩, ?_⟩
  · have : k ≠ g := fun e => hne (by rw [e])
    rw [Below.heap_setCell _ _ _ _ this, Below.heap_setCell _ _ _ _ this, Below.heap_setCell _ _ _ _ this, Below.heap_setCell _ _ _ _ this]
  · obtain ⟨hl, he⟩ := Array.getElem?_eq_some_iff.1 h
    simp [World.setCell, Array.getElem?_modify, h]
end Go.Proofs.Ythgnhdfppmoooaa.Re
/- The contract of down. -/
namespace Go.Proofs.Ythgnhdfppmoooaa.Re
open Go.RowKit AM
/-- The contract at a rule. -/
def DownAt (W0 : World) (A : Option Addr) (len cap : Nat) (L : List RV) (i : Nat) : Prop :=
  ∀ (r1 r2 r3 r4 : Int) (P : List (R4 × Nat)) (v : Value) (w : World), (⟨r1, r2, r3, r4⟩ : R4).ck = true → (P.length : Int) + area4 ⟨r1, r2, r3, r4⟩ ≤ 1100000 → Sd W0 A len cap w v P →
    Calls Try.prog 23 #[.agg #[.int .i64 r1, .int .i64 r2, .int .i64 r3, .int .i64 r4], .int .i64 (i : Int), ptrV (W0.heap.size + 1), ptrV (W0.heap.size + 3), ptrV (W0.heap.size + 2)] w fun e w' =>
      (∃ u, e = .returned u) ∧ ∃ v', Sd W0 A len cap w' v' (P ++ downL L i ⟨r1, r2, r3, r4⟩) ∧ St W0.heap.size w v w' v'
theorem downL_f {L : List RV} {k : Nat} {r : R4} (h : mt4 r (rr4 (ruleAt L (k + 1))) = false) : downL L (k + 1) r = downL L k r := by
  rw [downL, if_neg (by rw [h]; decide)]
theorem sheet_mt {L : List RV} (hs : isSheet (ruleAt L 0) = true) {r : R4} (hr : r.ck = true) : mt4 r (rr4 (ruleAt L 0)) = true := by
  unfold isSheet at hs
  have h0 := of_decide_eq_true hs
  unfold R4.ck at hr
  unfold mt4 mtB rr4
  rw [hr]
  obtain ⟨e1, e2, e3, e4⟩ := h0
  dsimp only
  rw [e1, e2, e3, e4]
  rw [ckB_iff] at hr
  have : emB (max r.c1 1) (max r.r1 1) (min r.c2 1024) (min r.r2 1024) = false := by
    unfold emB
    apply decide_eq_false
    omega
  rw [this]; decide
theorem downL_t {L : List RV} {i : Nat} {r : R4} (hs : isSheet (ruleAt L 0) = true) (hr : r.ck = true) (h : mt4 r (rr4 (ruleAt L i)) = true) :
    downL L i r = (meet4 r (rr4 (ruleAt L i)), i) :: (mnL r (meet4 r (rr4 (ruleAt L i)))).flatMap (downL L (i - 1)) ∧ (i = 0 → mnL r (meet4 r (rr4 (ruleAt L i))) = []) := by
  cases i with
  | zero =>
    have e := mnL_meet hr (s := rr4 (ruleAt L 0)) (fun p q hp => by
      unfold isSheet at hs
      have h0 := of_decide_eq_true hs
      unfold R4.ck at hr
      rw [ckB_iff] at hr
      rw [has4_iff] at hp ⊢
      unfold rr4
      dsimp only
      omega) h
    rw [e, downL, if_pos h]
    exact ⟨rfl, fun _ => rfl⟩
  | succ k => exact ⟨by rw [downL, if_pos h]; rfl, fun h => by cases h⟩
/-- The rest's row stays. -/
def Keep3 (n0 : Nat) (a3 : Option Addr) (l : List R4) (w : World) (v : Value) : Prop := 0 < l.length → ∃ g, a3 = some ⟨g, 0, none⟩ ∧ g ≠ n0 + 2 ∧ some g ≠ v.ownBlock ∧ RRow w g 0 l
theorem Keep3.next {n0 : Nat} {a3 : Option Addr} {l : List R4} {w w1 w' : World} {v v' : Value} (h : Keep3 n0 a3 l w v) (hB : Below w.heap.size w w1) (hT : St n0 w1 v w' v') : Keep3 n0 a3 l w' v' := by
  intro hl
  obtain ⟨g, h1, h2, h3, h4⟩ := h hl
  have hlt := h4.1
  have hs := hB.size
  refine ⟨g, h1, h2, ?_, RRow.far h4 ((hT.dn.block g (by omega) h2 h3).trans (hB.block g hlt)) (Nat.le_trans hB.size hT.dn.size)⟩
  rcases hT.rw with e | ⟨g', e, hg'⟩
  · rw [e]; exact h3
  · rw [e]; intro e2; injection e2 with e2; omega
set_option maxRecDepth 100000 in
set_option maxHeartbeats 6400000 in
theorem down_step (W0 : World) (b off len cap : Nat) (L : List RV) (hW : IsL W0 (some ⟨b, off, none⟩) len L) (hL : ∀ k, k < L.length → (rr4 (ruleAt L k)).ck = true) (hs : isSheet (ruleAt L 0) = true) (hlen : len ≤ 64) (i : Nat) (hi : i < len)
    (IH : ∀ k, i = k + 1 → DownAt W0 (some ⟨b, off, none⟩) len cap L k) : DownAt W0 (some ⟨b, off, none⟩) len cap L i := by
  intro r1 r2 r3 r4 P v w hr hP hS
  have hiL : i < L.length := by rw [hW.1]; exact hi
  have hRC := hL i hiL
  obtain ⟨b', off', hbo, hrow⟩ := hW.2 (by omega)
  injection hbo with hbo
  injection hbo with hb1 hb2
  subst hb1; subst hb2
  have hq := RowOf.seven hrow i hiL
  have hDF : ∀ k, i = k + 1 → mt4 ⟨r1, r2, r3, r4⟩ (rr4 (ruleAt L i)) = false → downL L i ⟨r1, r2, r3, r4⟩ = downL L k ⟨r1, r2, r3, r4⟩ := by
    intro k hk; subst hk; exact downL_f
  have hDT := downL_t (L := L) (i := i) hs hr
  have h0i : mt4 ⟨r1, r2, r3, r4⟩ (rr4 (ruleAt L i)) = false → ∃ k, i = k + 1 := by
    intro hm
    cases i with
    | zero => rw [sheet_mt hs hr] at hm; cases hm
    | succ k => exact ⟨k, rfl⟩
  have hLen : ∀ k, k < L.length → ∀ {N : Int} {l : List R4}, (∀ y ∈ l, y.ck = true) → areas l ≤ N → ∀ j (hj : j < l.length), (((l.take j).flatMap (downL L k)).length : Int) + area4 l[j] ≤ N := fun k hk N l h1 h2 => rest_fits L hL k hk h1 h2
  have hbW := hrow.1
  rw [ruleAt_get hiL] at hDF hDT h0i hRC
  have HS := Lib.hid hS
  have HP := Lib.hid hP
  have HDF := Lib.hid hDF
  have HDT := Lib.hid hDT
  have H0I := Lib.hid h0i
  have HRC := Lib.hid hRC
  have HROW : Hid (∀ q, v.ownBlock = some q → q < w.heap.size) := fun q hq => (hS.row q hq).2
  have HLB : Hid (W0.heap.size + 3 < w.heap.size) := hS.dbx.lt
  have HR := Lib.hid hr
  have HIH := Lib.hid IH
  have HLEN := Lib.hid hLen
  have HLL := Lib.hid hW.1
  have HHL := Lib.hid hL
  have HHS := Lib.hid hs
  clear hS hP hDF hDT h0i hRC hr IH hW hL hs hrow hLen
  generalize L[i] = R at *
  obtain ⟨x1, x2, x3, x4, x5, x6, x7⟩ := R
  have HQ : Hid (Quad W0 b (off + i * 7) x1 x2 x3 x4) := ⟨hbW, hq.1, hq.2.1, hq.2.2.1, hq.2.2.2.1⟩
  clear hq hbW
  have f1 := Four.start w r1 r2 r3 r4 23
  have l1 := below_alloc w (.cells #[.int .i64 r1, .int .i64 r2, .int .i64 r3, .int .i64 r4] 23)
  have s1 := alloc_size w (.cells #[.int .i64 r1, .int .i64 r2, .int .i64 r3, .int .i64 r4] 23)
  have F1 := Lib.hid f1
  have L1 := Lib.hid l1
  have S1 := Lib.hid s1
  have HSw := Lib.hid (HS.out.below l1)
  clear f1 l1 s1
  go_enter Try.func23, Try.ntmps23
  go_wp2_with fail
  generalize w.alloc (.cells #[.int .i64 r1, .int .i64 r2, .int .i64 r3, .int .i64 r4] 23) = w0 at *
  have HSB := Lib.hid HSw.out.bel
  generalize hmt : mtB r1 r2 r3 r4 x1 x2 x3 x4 = mt
  have HMT := Lib.hid hmt
  clear hmt
  obtain ⟨m1, hm1⟩ : ∃ m1, m1 = bv mt (max r1 x1) := ⟨_, rfl⟩
  obtain ⟨m2, hm2⟩ : ∃ m2, m2 = bv mt (max r2 x2) := ⟨_, rfl⟩
  obtain ⟨m3, hm3⟩ : ∃ m3, m3 = bv mt (min r3 x3) := ⟨_, rfl⟩
  obtain ⟨m4, hm4⟩ : ∃ m4, m4 = bv mt (min r4 x4) := ⟨_, rfl⟩
  have HM1 := Lib.hid hm1
  have HM2 := Lib.hid hm2
  have HM3 := Lib.hid hm3
  have HM4 := Lib.hid hm4
  clear hm1 hm2 hm3 hm4
  refine wp_region_seqo (fun X => Below w0.heap.size w0 X) w0.heap.size
    [fbC (.agg #[.int .i64 r1, .int .i64 r2, .int .i64 r3, .int .i64 r4]), fbC (.slice (some ⟨b, off, none⟩) len cap), fbC (.int .i64 (i : Int)), fbC (.pointer (some ⟨b, off + i * 7, none⟩)), fbC (.pointer (some ⟨b, off + i * 7, none⟩)),
      fbC (.agg #[.int .i64 x1, .int .i64 x2, .int .i64 x3, .int .i64 x4]), fbC (.tuple #[.agg #[.int .i64 m1, .int .i64 m2, .int .i64 m3, .int .i64 m4], .bool mt]), fbC (.tuple #[.agg #[.int .i64 m1, .int .i64 m2, .int .i64 m3, .int .i64 m4], .bool mt]),
      fbC (.agg #[.int .i64 m1, .int .i64 m2, .int .i64 m3, .int .i64 m4]), fbC (.bool mt), fbN (fun g => .pointer (some ⟨g, 0, none⟩)) w0.heap.size (.cells #[.int .i64 0, .int .i64 0, .int .i64 0, .int .i64 0] 23),
      fbS 10 w0.heap.size (.cells #[.int .i64 m1, .int .i64 m2, .int .i64 m3, .int .i64 m4] 23), fbC (.bool mt)]
    [[], [], [], [], [], [], [], [], [], [], [], [10]] [[], [], [], [], [], [], [], [], [], [], [], [10]] [[], [], [], [1, 2], [3], [4], [0, 5], [6], [7], [7], [], [10, 8], [9]]
    (fun a b h k => k.trans h) (by kernel_rfl) (by kernel_rfl) (by kernel_rfl) ⟨rfl, rfl, rfl, Nat.le_refl _, fun _ _ => rfl⟩ (Nat.le_refl _) ?_ (by kernel_rfl)
    ⟨good_C _ _, good_C _ _, good_C _ _, good_C _ _, good_C _ _, good_C _ _, good_C _ _, good_C _ _, good_C _ _, good_C _ _, good_N _ (fun _ => rfl), good_S (by decide), good_C _ _, trivial⟩ (Nat.le_refl 13)
  simp only [putsL, Act.put, List.setIfInBounds_toArray, List.set_cons_zero, List.set_cons_succ, Nat.zero_add, Nat.reduceAdd]
  refine seqo_cons (obo_run rfl (fun vs W hD => rfl) (fun vs W hS hD => ?_)) ?_
  · obtain ⟨_, d1, d2, d3, d4⟩ := F1.out.later hS
    go_simp; done
  refine seqo_cons (obo_run rfl (fun vs W hD => rfl) (fun vs W hS hD => ?_)) ?_
  · have d1 := (HSw.out.below hS).rbx.cell
    go_simp; done
  refine seqo_cons (obo_run rfl (fun vs W hD => rfl) (fun vs W hS hD => ?_)) ?_
  · go_simp; done
  refine seqo_cons (obo_run rfl (fun vs W hD => rfl) (fun vs W hS hD => ?_)) ?_
  · have h1 : vs 1 = _ := hD.1
    have h2 : vs 2 = _ := hD.2.1
    go_simp; done
  refine seqo_cons (obo_run rfl (fun vs W hD => rfl) (fun vs W hS hD => ?_)) ?_
  · have h1 : vs 3 = _ := hD.1
    go_simp; done
  refine seqo_cons (obo_run rfl (fun vs W hD => rfl) (fun vs W hS hD => ?_)) ?_
  · have h1 : vs 4 = _ := hD.1
    obtain ⟨_, c1, c2, c3, c4⟩ := HQ.out.later (Below.next HSB.out hS)
    go_simp; done
  refine seqo_cons (obo_call rfl (f := 24) (fun vs => #[.agg #[.int .i64 r1, .int .i64 r2, .int .i64 r3, .int .i64 r4], .agg #[.int .i64 x1, .int .i64 x2, .int .i64 x3, .int .i64 x4]]) (fun vs W hD => rfl) (fun vs W hS hD => ?_) (fun vs W hS hZ hD => ?_)) ?_
  · have h1 : vs 0 = _ := hD.1
    have h2 : vs 5 = _ := hD.2.1
    go_simp; done
  · rw [HM1.out, HM2.out, HM3.out, HM4.out, ← HMT.out]
    exact rmeet_any r1 r2 r3 r4 x1 x2 x3 x4 W
  refine seqo_cons (obo_run rfl (fun vs W hD => rfl) (fun vs W hS hD => ?_)) ?_
  · have h1 : vs 6 = _ := hD.1
    go_simp; done
  refine seqo_cons (obo_run rfl (fun vs W hD => rfl) (fun vs W hS hD => ?_)) ?_
  · have h1 : vs 7 = _ := hD.1
    go_simp; done
  refine seqo_cons (obo_run rfl (fun vs W hD => rfl) (fun vs W hS hD => ?_)) ?_
  · have h1 : vs 7 = _ := hD.1
    go_simp; done
  refine seqo_cons (obo_new rfl (fun _ => rfl) (fun vs W hD => rfl) (fun vs W hS hD => ?_)) ?_
  · go_simp; done
  refine seqo_cons (obo_store (j := 10) rfl rfl (by decide) (fun vs W hD => rfl) (fun vs W hS hZ hD => ?_)) ?_
  · obtain ⟨⟨g, h10, hg, hh⟩, h8, _⟩ := hD
    have h10 : vs 10 = _ := h10
    have h8 : vs 8 = _ := h8
    have hs := set4 W g 23 _ _ _ _ (.int .i64 m1) (.int .i64 m2) (.int .i64 m3) (.int .i64 m4) hh
    refine ⟨g, _, h10, hg, (Array.getElem?_eq_some_iff.1 hh).1, ?_, hs.1, hs.2⟩
    have c0 : W.cell? ⟨g, 0, none⟩ = some (.int .i64 0) := by simp [World.cell?, hh]
    have c1 : W.cell? ⟨g, 1, none⟩ = some (.int .i64 0) := by simp [World.cell?, hh]
    have c2 : W.cell? ⟨g, 2, none⟩ = some (.int .i64 0) := by simp [World.cell?, hh]
    have c3 : W.cell? ⟨g, 3, none⟩ = some (.int .i64 0) := by simp [World.cell?, hh]
    have f0 : W.frozen? ⟨g, 0, none⟩ = false := by simp [World.frozen?, hh]
    have f1 : W.frozen? ⟨g, 1, none⟩ = false := by simp [World.frozen?, hh]
    have f2 : W.frozen? ⟨g, 2, none⟩ = false := by simp [World.frozen?, hh]
    have f3 : W.frozen? ⟨g, 3, none⟩ = false := by simp [World.frozen?, hh]
    clear hs hh
    go_simp; done
  refine seqo_cons (obo_run rfl (fun vs W hD => rfl) (fun vs W hS hD => ?_)) ?_
  · have h6 : vs 9 = _ := hD.1
    go_simp; done
  refine seqo_end fun vs W hS hZ hv => ?_
  obtain ⟨k0, k1, k2, k3, k4, k5, k6, k7, k8, k9, k10, k11, k12, kz⟩ := hv
  have h0 : vs 0 = _ := k0 rfl
  have h1 : vs 1 = _ := k1 rfl
  have h2 : vs 2 = _ := k2 rfl
  have h3 : vs 3 = _ := k3 rfl
  have h4 : vs 4 = _ := k4 rfl
  have h5 : vs 5 = _ := k5 rfl
  have h6 : vs 6 = _ := k6 rfl
  have h7 : vs 7 = _ := k7 rfl
  have h8 : vs 8 = _ := k8 rfl
  have h9 : vs 9 = _ := k9 rfl
  have h12 : vs 12 = _ := k12 rfl
  obtain ⟨g, h10, hg, hh⟩ := k11 rfl
  have HF1 := Lib.hid (F1.out.later hS)
  have HGW : Hid (w.heap.size < g) := by unfold Hid; have := S1.out; omega
  have HG : Hid (Four W g m1 m2 m3 m4) := ⟨(Array.getElem?_eq_some_iff.1 hh).1, by simp [World.cell?, hh], by simp [World.cell?, hh], by simp [World.cell?, hh], by simp [World.cell?, hh]⟩
  have HSW := Lib.hid (HSw.out.below hS)
  have LW := Lib.hid (Below.next L1.out hS)
  simp only [h0, h1, h2, h3, h4, h5, h6, h7, h8, h9, h10, h12]
  clear h0 h1 h2 h3 h4 h5 h6 h7 h8 h9 h10 h12 k0 k1 k2 k3 k4 k5 k6 k7 k8 k9 k10 k11 k12 kz hh hg hS hZ F1 HSw HSB HQ HS S1
  cases mt
  · obtain ⟨k, rfl⟩ := H0I.out HMT.out
    have d1 := HSW.out.dbx.cell
    obtain ⟨_, e1, e2, e3, e4⟩ := HF1.out
    go_wp2_with fail
    refine (HIH.out k rfl r1 r2 r3 r4 P v _ HR.out HP.out HSW.out).mono ?_
    rintro e w1 ⟨⟨u, rfl⟩, v1, hS1, hT1⟩
    have HS1 := Lib.hid hS1
    have HT1 := Lib.hid hT1
    clear hS1 hT1
    go_wp2_with fail
    refine bodyPost_ret (results_none rfl _ _ _) rfl ?_
    refine ⟨⟨_, rfl⟩, v1, ?_, (St.of_below LW.out).trans HT1.out⟩
    rw [HDF.out k rfl HMT.out]
    exact HS1.out
  · have d1 := HSW.out.lbx.cell
    obtain ⟨_, e1, e2, e3, e4⟩ := HF1.out
    obtain ⟨_, g1, g2, g3, g4⟩ := HG.out
    have hsz := HSW.out.bel.size
    have HO1 := Lib.hid (HSW.out.own.alloc (.cells #[.int .i64 m1, .int .i64 m2, .int .i64 m3, .int .i64 m4, .int .i64 (i : Int)] 39))
    have HI1 := Lib.hid (isOf_new (c := cells5) (n := 5) W #[.int .i64 m1, .int .i64 m2, .int .i64 m3, .int .i64 m4, .int .i64 (i : Int)] 39 ((⟨m1, m2, m3, m4⟩, i) : R4 × Nat) rfl)
    have HPL : Hid (P.length ≤ 2000000) := by unfold Hid; have h1 := HP.out; have h2 := area_pos HR.out; omega
    go_wp2_with (at_builtin; refine wpList_appP rfl (.tmp 30) (.tmp 34) rfl W0.heap.size v P rfl HO1.out W.heap.size (⟨m1, m2, m3, m4⟩, i) rfl HI1.out HPL.out (by simp; omega) ?_)
    intro v1 w1 ho1 hg1 hr1
    obtain ⟨hb1, hs1, ht1⟩ := HSW.out.appended ho1 hg1 (by rw [World.size_alloc]; exact hr1)
    have hq : ∃ q qc, v1 = .slice (some ⟨q, 0, none⟩) (P.length + 1) qc := by
      have := ho1
      unfold OwnP5 OwnOf at this
      rw [List.length_append, List.length_singleton] at this
      exact ownsRow_succ this
    obtain ⟨q, qc, rfl⟩ := hq
    have hb2 := hb1.cell
    have hb3 := hb1.frozen
    have F2 := Lib.hid (ht1.four HF1.out (by have := HLB.out; omega) HROW.out)
    have G2 := Lib.hid (ht1.four HG.out (by have := HLB.out; have := HGW.out; omega) (fun q hq => Nat.lt_trans (HROW.out q hq) HGW.out))
    have HS1 := Lib.hid hs1
    have HT1 := Lib.hid ((St.of_below LW.out).trans ht1)
    clear ho1 hg1 hr1 hb1 hs1 ht1 d1 e1 e2 e3 e4 g1 g2 g3 g4 HF1 HG HSW LW HO1 HI1
    obtain ⟨_, e1, e2, e3, e4⟩ := F2.out
    obtain ⟨_, g1, g2, g3, g4⟩ := G2.out
    go_wp2_with fail
    clear hb2 hb3
    generalize w1.setCell ⟨W0.heap.size + 2, 0, none⟩ (.slice (some ⟨q, 0, none⟩) (P.length + 1) qc) = w2 at *
    refine (minus_any r1 r2 r3 r4 m1 m2 m3 m4 _).mono ?_
    rintro e w3 ⟨⟨v3, rfl, ho3⟩, hB3⟩
    clear e1 e2 e3 e4 g1 g2 g3 g4
    have HS3 := Lib.hid (HS1.out.below hB3)
    have HT3 := Lib.hid (HT1.out.trans (St.of_below hB3))
    obtain ⟨a3, c3, rfl, hr3⟩ := ownR_row ho3
    obtain ⟨eD, eZ⟩ := HDT.out HMT.out
    have hmt4 : mt4 ⟨r1, r2, r3, r4⟩ (rr4 ⟨x1, x2, x3, x4, x5, x6, x7⟩) = true := HMT.out
    have hmck := meet4_ck hmt4
    have hmm : meet4 ⟨r1, r2, r3, r4⟩ (rr4 ⟨x1, x2, x3, x4, x5, x6, x7⟩) = ⟨m1, m2, m3, m4⟩ := by rw [HM1.out, HM2.out, HM3.out, HM4.out]; rfl
    have hm2 := mt4_meet hmt4
    rw [hmm] at eD eZ hmck hm2
    have hck := (mnL_ck HR.out hmck).1
    have har := mnL_area HR.out hmck hm2
    have hnl := len_areas hck
    have hrm := area_max HR.out
    have hk3 : Keep3 W0.heap.size a3 (mnL ⟨r1, r2, r3, r4⟩ ⟨m1, m2, m3, m4⟩) w3 (.slice (some ⟨q, 0, none⟩) (P.length + 1) qc) := by
      intro h0
      obtain ⟨g3, e1, e2, e3⟩ := hr3 h0
      have hl := HS1.out.lbx.lt
      refine ⟨g3, e1, by omega, fun e => ?_, e3⟩
      have := (HS1.out.row g3 e.symm).2
      omega
    generalize mnL ⟨r1, r2, r3, r4⟩ ⟨m1, m2, m3, m4⟩ = rest at *
    have hn : rest.length ≤ 1048576 := by omega
    have HK3 := Lib.hid hk3
    have HED := Lib.hid eD
    have HEZ := Lib.hid eZ
    have HCK := Lib.hid hck
    have HAR := Lib.hid har
    clear hmt4 ho3 hB3 hr3 hk3 eD eZ hmck hmm hm2 hck har hnl hrm
    clear HDT HDF H0I HMT HM1 HM2 HM3 HM4 HS1 HT1 F2 G2
    generalize mnE ⟨r1, r2, r3, r4⟩ ⟨m1, m2, m3, m4⟩ = E at *
    generalize hnn : rest.length = n at *
    have HNN := Lib.hid hnn
    clear hnn
    go_wp2_with fail
    go_loopw [44] (fun z wr => ∃ (k : Nat) (u : Value), k ≤ n ∧ z = .int .i64 (k : Int) ∧ Hid (Sd W0 (some ⟨b, off, none⟩) len cap wr u (P ++ ((⟨m1, m2, m3, m4⟩, i) :: (rest.take k).flatMap (downL L (i - 1))))) ∧ Hid (St W0.heap.size w v wr u) ∧ Hid (Keep3 W0.heap.size a3 rest wr u)) (fun z _ => n - (intOf z).toNat)
    case atStart => exact ⟨0, _, Nat.zero_le _, rfl, HS3.out, HT3.out, HK3.out⟩
    case round =>
      obtain ⟨k, u, hk, rfl, HSr, HTr, HKr⟩ := hrel
      by_cases hlt : k < n
      · have hkl : k < rest.length := by rw [HNN.out]; exact hlt
        obtain ⟨g3, rfl, hg3, hgu, hrow⟩ := HKr.out (by omega)
        obtain ⟨c1, c2, c3, c4⟩ := hrow.2 k hkl
        have hck := HCK.out rest[k] (List.getElem_mem hkl)
        obtain ⟨i', hi'⟩ : ∃ i', i = i' + 1 := by
          cases i with
          | zero => rw [HEZ.out rfl] at hkl; cases hkl
          | succ i' => exact ⟨i', rfl⟩
        have hpos : 0 < i := by omega
        have HI' := Lib.hid hi'
        have hfit := HLEN.out i' (by omega) HCK.out (Int.le_refl _) k hkl
        have hstep : (rest.take (k + 1)).flatMap (downL L i') = (rest.take k).flatMap (downL L i') ++ downL L i' rest[k] := by
          rw [List.take_succ_eq_append_getElem hkl, List.flatMap_append]; simp
        have HSTEP := Lib.hid hstep
        have HFIT := Lib.hid hfit
        have HYK := Lib.hid hck
        clear hstep hfit hck hrow hi'
        generalize rest[k] = y at *
        obtain ⟨y1, y2, y3, y4⟩ := y
        have d1 := HSr.out.dbx.cell
        simp only [Nat.zero_add] at c1 c2 c3 c4
        have hdl := HSr.out.dbx.lt
        have HBA := Lib.hid (below_alloc wr (.cells #[.int .i64 y1, .int .i64 y2, .int .i64 y3, .int .i64 y4] 23))
        have HFI : Hid (((P ++ ((⟨m1, m2, m3, m4⟩, i) :: (rest.take k).flatMap (downL L (i - 1)))).length : Int) + area4 ⟨y1, y2, y3, y4⟩ ≤ 1100000) := by
          unfold Hid
          have h1 := HFIT.out
          have h2 := HP.out
          have h3 := HAR.out
          rw [List.length_append, List.length_cons, show i - 1 = i' by rw [HI'.out]; rfl]
          omega
        go_wp2_with fail
        rw [show ((i : Int) - 1) = (i' : Int) by have := HI'.out; omega]
        refine (HIH.out i' HI'.out y1 y2 y3 y4 _ u _ HYK.out HFI.out (HSr.out.below HBA.out)).mono ?_
        rintro e w5 ⟨⟨z5, rfl⟩, u5, hS5, hT5⟩
        have HS5 := Lib.hid hS5
        have HK5 := Lib.hid (HKr.out.next HBA.out hT5)
        have HT5 := Lib.hid ((HTr.out.trans (St.of_below HBA.out)).trans hT5)
        clear hS5 hT5 c1 c2 c3 c4 d1 hdl
        go_wp2_with fail
        go_roundw
        case rel =>
          refine ⟨k + 1, u5, by omega, by go_num, ?_, HT5.out, HK5.out⟩
          have h1 := HS5.out
          rw [show i - 1 = i' by rw [HI'.out]; rfl] at h1 ⊢
          rw [List.append_assoc, List.cons_append, ← HSTEP.out] at h1
          exact h1
        case measure => simp [intOf]; omega
      · obtain rfl : k = n := by omega
        have HT : Hid (rest.take k = rest) := List.take_of_length_le (by rw [HNN.out]; exact Nat.le_refl _)
        go_wp2_with fail
        (try simp only [Exit.inBlock, Exit.then])
        refine bodyPost_end (results_none rfl _ _ _) rfl ?_
        refine ⟨⟨_, rfl⟩, u, ?_, HTr.out⟩
        have h1 := HSr.out
        rw [HT.out] at h1
        rw [HED.out]
        exact h1
theorem down_any (W0 : World) (b off len cap : Nat) (L : List RV) (hW : IsL W0 (some ⟨b, off, none⟩) len L) (hL : ∀ k, k < L.length → (rr4 (ruleAt L k)).ck = true) (hs : isSheet (ruleAt L 0) = true) (hlen : len ≤ 64) : ∀ i, i < len → DownAt W0 (some ⟨b, off, none⟩) len cap L i := by
  intro i
  induction i with
  | zero => intro hi; exact down_step W0 b off len cap L hW hL hs hlen 0 hi (fun k hk => by cases hk)
  | succ i ih => intro hi; exact down_step W0 b off len cap L hW hL hs hlen (i + 1) hi (fun k hk => by injection hk with hk; subst hk; exact ih (by omega))
end Go.Proofs.Ythgnhdfppmoooaa.Re
/- The contracts of cut, Over and May. -/
namespace Go.Proofs.Ythgnhdfppmoooaa.Re
open Go.RowKit AM
section
variable {P : Program} {w : World} {a : Addr} {m : Mode}
theorem run_store_func (f : Fn) (x y : Array Value) : (store a (.func f x y) m).run P w = stored P w a (.func f x y) m := run_store P w a _ m rfl
end
attribute [local go_sem] run_store_func
theorem Sd.start (w : World) (A : Option Addr) (len cap : Nat) (o : Obj) :
    Sd w A len cap ((((w.alloc o).alloc (.cells #[.slice A len cap] 24)).alloc (.cells #[.slice none 0 0] 36)).alloc
      (.cells #[.func (.func 23) #[] #[ptrV (w.heap.size + 1), ptrV (w.heap.size + 1 + 1 + 1), ptrV (w.heap.size + 1 + 1)]] 61)) (.slice none 0 0) [] := by
  have b1 := Boxed.new (w.alloc o) 24 (.slice A len cap)
  have s1 := alloc_size w o
  have l1 := below_alloc w o
  generalize w.alloc o = w1 at *
  have b2 := Boxed.new (w1.alloc (.cells #[.slice A len cap] 24)) 36 (.slice none 0 0)
  have s2 := alloc_size w1 (.cells #[.slice A len cap] 24)
  have l2 := below_alloc w1 (.cells #[.slice A len cap] 24)
  generalize w1.alloc (.cells #[.slice A len cap] 24) = w2 at *
  have s3 := alloc_size w2 (.cells #[.slice none 0 0] 36)
  have l3 := below_alloc w2 (.cells #[.slice none 0 0] 36)
  have b1 := b1.alloc (.cells #[.slice none 0 0] 36)
  generalize w2.alloc (.cells #[.slice none 0 0] 36) = w3 at *
  have b3 := Boxed.new w3 61 (.func (.func 23) #[] #[ptrV (w.heap.size + 1), ptrV (w.heap.size + 1 + 1 + 1), ptrV (w.heap.size + 1 + 1)])
  have l4 := below_alloc w3 (.cells #[.func (.func 23) #[] #[ptrV (w.heap.size + 1), ptrV (w.heap.size + 1 + 1 + 1), ptrV (w.heap.size + 1 + 1)]] 61)
  have b1 := b1.alloc (.cells #[.func (.func 23) #[] #[ptrV (w.heap.size + 1), ptrV (w.heap.size + 1 + 1 + 1), ptrV (w.heap.size + 1 + 1)]] 61)
  have b2 := b2.alloc (.cells #[.func (.func 23) #[] #[ptrV (w.heap.size + 1), ptrV (w.heap.size + 1 + 1 + 1), ptrV (w.heap.size + 1 + 1)]] 61)
  rw [s1] at b1
  rw [s2, s1] at b2
  rw [s3, s2, s1] at b3
  exact ⟨Below.next (Below.next (Below.next l1 l2) l3) l4, b1, b2, b3, OwnOf.nil _ _ _ _ _⟩
set_option maxRecDepth 100000 in
set_option maxHeartbeats 3200000 in
theorem cut_any (r1 r2 r3 r4 : Int) (a : Option Addr) (len cap : Nat) (L : List RV) (w : World) (hL : IsL w a len L) (hck : ∀ k, k < L.length → (rr4 (ruleAt L k)).ck = true) (hs : isSheet (ruleAt L 0) = true) (h0 : 0 < len) (hlen : len ≤ 64) (hr : (⟨r1, r2, r3, r4⟩ : R4).ck = true) :
    Calls Try.prog 11 #[.agg #[.int .i64 r1, .int .i64 r2, .int .i64 r3, .int .i64 r4], .slice a len cap] w fun e w' =>
      (∃ v, e = .returned v ∧ OwnP5 w.heap.size w' v (downL L (L.length - 1) ⟨r1, r2, r3, r4⟩)) ∧ Below w.heap.size w w' := by
  obtain ⟨b, off, rfl, hrow⟩ := hL.2 h0
  have HD := Lib.hid (down_any w b off len cap L hL hck hs hlen (len - 1) (by omega))
  have HL := Lib.hid hL
  have HR := Lib.hid hr
  have hLL := hL.1
  have HAM := Lib.hid (area_max hr)
  clear hck hs hrow hr hL
  go_enter Try.func11, Try.ntmps11
  go_wp2_with fail
  rw [show ((len : Int) - 1) = ((len - 1 : Nat) : Int) by omega]
  refine (HD.out r1 r2 r3 r4 [] (.slice none 0 0) _ HR.out (by have := HAM.out; simp; omega) (Sd.start w _ len cap _)).mono ?_
  rintro e w1 ⟨⟨z, rfl⟩, v, hS, hT⟩
  have d1 := hS.lbx.cell
  have hv : ∃ x y, v = .slice x (downL L (len - 1) ⟨r1, r2, r3, r4⟩).length y := by
    obtain ⟨x, y, h, _⟩ := hS.own.isOf cells5_len
    exact ⟨x, y, h⟩
  obtain ⟨x, y, rfl⟩ := hv
  have HS := Lib.hid hS
  clear hS hT
  go_wp2_with fail
  go_ret
  refine ⟨⟨_, rfl, ?_⟩, HS.out.bel⟩
  have h := HS.out.own
  rw [hLL]
  exact h
end Go.Proofs.Ythgnhdfppmoooaa.Re
/- The contracts of Over and May. -/
namespace Go.Proofs.Ythgnhdfppmoooaa.Re
open Go.RowKit AM
/-- Rights in a block of their own. -/
def Box3 (w : World) (p : Nat) (x y z : Int) : Prop := p < w.heap.size ∧ w.cell? ⟨p, 0, none⟩ = some (.int .u64 x) ∧ w.cell? ⟨p, 1, none⟩ = some (.int .u64 y) ∧ w.cell? ⟨p, 2, none⟩ = some (.int .u64 z)
theorem Box3.later {w w' : World} {p : Nat} {x y z : Int} (h : Box3 w p x y z) (hB : Below w.heap.size w w') : Box3 w' p x y z := by
  obtain ⟨h0, h1, h2, h3⟩ := h
  have hc := (bcell hB).1
  exact ⟨Nat.lt_of_lt_of_le h0 hB.size, by rw [hc _ _ h0]; exact h1, by rw [hc _ _ h0]; exact h2, by rw [hc _ _ h0]; exact h3⟩
theorem Box3.start (w : World) (x y z : Int) (t : TypeId) : Box3 (w.alloc (.cells #[.int .u64 x, .int .u64 y, .int .u64 z] t)) w.heap.size x y z := ⟨by simp, by simp, by simp, by simp⟩
/-- The same, the block whole. -/
def Bl3 (w : World) (p : Nat) (x y z : Int) : Prop := w.heap[p]? = some (.cells #[.int .u64 x, .int .u64 y, .int .u64 z] 42)
theorem Bl3.lt {w : World} {p : Nat} {x y z : Int} (h : Bl3 w p x y z) : p < w.heap.size := (Array.getElem?_eq_some_iff.1 h).1
theorem Bl3.start (w : World) (x y z : Int) : Bl3 (w.alloc (.cells #[.int .u64 x, .int .u64 y, .int .u64 z] 42)) w.heap.size x y z := heap_alloc_new w _
theorem Bl3.later {w w' : World} {p : Nat} {x y z : Int} (h : Bl3 w p x y z) (hB : Below w.heap.size w w') : Bl3 w' p x y z := (hB.block p h.lt).trans h
theorem Bl3.cells {w : World} {p : Nat} {x y z : Int} (h : Bl3 w p x y z) : w.cell? ⟨p, 0, none⟩ = some (.int .u64 x) ∧ w.cell? ⟨p, 1, none⟩ = some (.int .u64 y) ∧ w.cell? ⟨p, 2, none⟩ = some (.int .u64 z) ∧
    w.frozen? ⟨p, 0, none⟩ = false ∧ w.frozen? ⟨p, 1, none⟩ = false ∧ w.frozen? ⟨p, 2, none⟩ = false := by
  unfold Bl3 at h
  refine ⟨?_, ?_, ?_, ?_, ?_, ?_⟩ <;> simp [World.cell?, World.frozen?, h]
theorem Bl3.set {w : World} {p : Nat} {x y z : Int} (h : Bl3 w p x y z) (x' y' z' : Int) :
    Bl3 (((w.setCell ⟨p, 0, none⟩ (.int .u64 x')).setCell ⟨p, 1, none⟩ (.int .u64 y')).setCell ⟨p, 2, none⟩ (.int .u64 z')) p x' y' z' ∧
    w.grownBy (((w.setCell ⟨p, 0, none⟩ (.int .u64 x')).setCell ⟨p, 1, none⟩ (.int .u64 y')).setCell ⟨p, 2, none⟩ (.int .u64 z')) (some p) := by
  have := set3 w p 42 _ _ _ (.int .u64 x') (.int .u64 y') (.int .u64 z') h
  exact ⟨this.2, this.1⟩
theorem ownP5_at {B : Nat} {w : World} {a : Option Addr} {n c : Nat} {D : List (R4 × Nat)} (h : OwnP5 B w (.slice a n c) D) (k : Nat) (hk : k < D.length) : ∃ g, a = some ⟨g, 0, none⟩ ∧ g < w.heap.size ∧
    w.cell? ⟨g, k * 5, none⟩ = some (.int .i64 D[k].1.c1) ∧ w.cell? ⟨g, k * 5 + 1, none⟩ = some (.int .i64 D[k].1.r1) ∧ w.cell? ⟨g, k * 5 + 2, none⟩ = some (.int .i64 D[k].1.c2) ∧ w.cell? ⟨g, k * 5 + 3, none⟩ = some (.int .i64 D[k].1.r2) ∧
    w.cell? ⟨g, k * 5 + 4, none⟩ = some (.int .i64 (D[k].2 : Int)) := by
  obtain ⟨a', c', e, hi⟩ := h.isOf cells5_len
  injection e with e1 e2 e3
  subst e1
  rcases h.2 with ⟨h1, h2⟩ | ⟨g, cp, cur, h1, hg, hh, _⟩
  · rw [← e2] at h2; rw [show D.length = 0 by omega] at hk; cases hk
  · injection h1 with h1 _ _
    subst h1
    obtain ⟨b, off, hb, hr⟩ := hi.2 (by omega)
    injection hb with hb
    injection hb with hb1 hb2
    subst hb1; subst hb2
    have key : ∀ (j : Nat) (v : Value), (cells5 D[k])[j]? = some v → w.cell? ⟨g, k * 5 + j, none⟩ = some v := fun j v hv => by
      have := hr.2 k hk j v hv
      rwa [Nat.zero_add] at this
    exact ⟨g, rfl, hr.1, key 0 _ rfl, key 1 _ rfl, key 2 _ rfl, key 3 _ rfl, key 4 _ rfl⟩
theorem findBad_zero (n : Nat) : ∀ (L : List RV) (i : Nat), (findBad n L i).2 = 0 ↔ ∀ j (hj : j < L.length), okRule n L[j] = true := by
  intro L
  induction L with
  | nil =>
    intro i
    constructor
    · intro _ j hj; exact absurd hj (by simp)
    · intro _; rfl
  | cons r L ih =>
    intro i
    unfold findBad
    cases h : okRule n r
    · rw [if_neg (by decide)]
      constructor
      · intro h0; unfold badE at h0; dsimp only at h0; split at h0 <;> omega
      · intro h0; have := h0 0 (by simp); simp [h] at this
    · rw [if_pos rfl, ih (i + 1)]
      constructor
      · intro h0 j hj
        cases j with
        | zero => exact h
        | succ j => exact h0 j (by simpa using hj)
      · intro h0 j hj; exact h0 (j + 1) (by simpa using hj)
/-- Valid rules. -/
theorem rck_zero {L : List RV} : (rck 64 L).2 = 0 ↔ 0 < L.length ∧ L.length ≤ 64 ∧ isSheet (ruleAt L 0) = true ∧ ∀ k, k < L.length → okRule 64 (ruleAt L k) = true := by
  constructor
  · intro h
    obtain ⟨h1, h2⟩ := rck_len h
    refine ⟨h1, h2, ?_⟩
    unfold rck at h
    rw [if_neg (by omega), if_neg (by omega)] at h
    rw [ruleAt_get h1, ← head_at L h1]
    split at h
    · rename_i hs
      refine ⟨hs, fun k hk => ?_⟩
      rw [findBad_zero] at h
      rw [ruleAt_get hk]; exact h k hk
    · simp at h
  · rintro ⟨h1, h2, h3, h4⟩
    rw [ruleAt_get h1, ← head_at L h1] at h3
    unfold rck
    rw [if_neg (by omega), if_neg (by omega), if_pos h3, findBad_zero]
    intro j hj
    rw [← ruleAt_get hj]; exact h4 j hj
theorem okRule_ck {n : Nat} {r : RV} (h : okRule n r = true) : (rr4 r).ck = true := by
  unfold okRule at h
  rw [Bool.and_eq_true] at h
  exact h.1
theorem gcE_zero {r : R4} {L : List RV} : gcE r L = 0 ↔ r.ck = true ∧ (rck 64 L).2 = 0 := by
  unfold gcE R4.ck
  split
  · rename_i h; simp [h]
  · rename_i h; simp [h]
/-- The rights over a range, none where the arguments are not valid. -/
def ovV (f : RV → W64) (r : R4) (L : List RV) : W64 := if gcE r L = 0 then ovr f r L else 0#64
def rights3 (a b c : W64) : Value := .agg #[.int .u64 (a.toNat : Int), .int .u64 (b.toNat : Int), .int .u64 (c.toNat : Int)]
def overV (r : R4) (L : List RV) : Value := .tuple #[rights3 (ovV RV.rd r L) (ovV RV.wr r L) (ovV RV.ow r L), .int .i64 (gcE r L)]
theorem downL_lt (L : List RV) : ∀ (i : Nat) (r : R4), ∀ x ∈ downL L i r, x.2 ≤ i
  | 0, r, x, hx => by
    unfold downL at hx
    split at hx
    · simp only [List.mem_singleton] at hx; subst hx; exact Nat.le_refl _
    · cases hx
  | i + 1, r, x, hx => by
    unfold downL at hx
    split at hx
    · rcases List.mem_cons.1 hx with rfl | hx
      · exact Nat.le_refl _
      · obtain ⟨y, _, hx⟩ := List.mem_flatMap.1 hx
        have := downL_lt L i y x hx; omega
    · have := downL_lt L i r x hx; omega
set_option maxRecDepth 100000 in
set_option maxHeartbeats 6400000 in
theorem over_any (r1 r2 r3 r4 : Int) (a : Option Addr) (len cap : Nat) (L : List RV) (hl : len ≤ 100000) (w : World) (hL : IsL w a len L) :
    Calls Try.prog 17 #[.agg #[.int .i64 r1, .int .i64 r2, .int .i64 r3, .int .i64 r4], .slice a len cap] w fun e w' => e = .returned (overV ⟨r1, r2, r3, r4⟩ L) ∧ Below w.heap.size w w' := by
  have HL := Lib.hid hL
  have HLL := Lib.hid hL.1
  clear hL
  go_enter Try.func17, Try.ntmps17
  have hF := Four.start w r1 r2 r3 r4 23
  have l1 := below_alloc w (.cells #[.int .i64 r1, .int .i64 r2, .int .i64 r3, .int .i64 r4] 23)
  have l2 := below_alloc (w.alloc (.cells #[.int .i64 r1, .int .i64 r2, .int .i64 r3, .int .i64 r4] 23)) (.cells #[.int .u64 0, .int .u64 0, .int .u64 0] 42)
  have hR := Bl3.start (w.alloc (.cells #[.int .i64 r1, .int .i64 r2, .int .i64 r3, .int .i64 r4] 23)) 0 0 0
  rw [World.size_alloc] at hR
  have HF := Lib.hid (hF.later l2)
  have HR := Lib.hid hR
  have HB := Lib.hid (Below.next l1 l2)
  clear hF hR l1 l2
  go_wp2_with fail
  generalize (w.alloc (.cells #[.int .i64 r1, .int .i64 r2, .int .i64 r3, .int .i64 r4] 23)).alloc (.cells #[.int .u64 0, .int .u64 0, .int .u64 0] 42) = w0 at *
  refine (gcheck_any r1 r2 r3 r4 a len cap L hl _ (HL.out.later HB.out)).mono ?_
  rintro e w1 ⟨rfl, hB1⟩
  have HF1 := Lib.hid (HF.out.later hB1)
  have HR1 := Lib.hid (HR.out.later hB1)
  have HB1 := Lib.hid (Below.next HB.out hB1)
  clear hB1 HF HR HB
  obtain ⟨_, e1, e2, e3, e4⟩ := HF1.out
  obtain ⟨q1, q2, q3, o1, o2, o3⟩ := HR1.out.cells
  have hr1l := HR1.out.lt
  have ones : ((BitVec.allOnes 64 : W64).toNat : Int) = 18446744073709551615 := by decide
  have HONE := Lib.hid ones
  clear ones
  by_cases hz : gcE ⟨r1, r2, r3, r4⟩ L = 0
  · obtain ⟨hrk, hrc⟩ := gcE_zero.1 hz
    obtain ⟨h0, h64, hsh, hok⟩ := rck_zero.1 hrc
    have HE : Hid (overV ⟨r1, r2, r3, r4⟩ L = .tuple #[rights3 (ovr RV.rd ⟨r1, r2, r3, r4⟩ L) (ovr RV.wr ⟨r1, r2, r3, r4⟩ L) (ovr RV.ow ⟨r1, r2, r3, r4⟩ L), .int .i64 0]) := by
      unfold Hid overV ovV; rw [hz, if_pos rfl, if_pos rfl, if_pos rfl]
    have HRK := Lib.hid hrk
    have HSH := Lib.hid hsh
    have HOK : Hid (∀ k, k < L.length → (rr4 (ruleAt L k)).ck = true) := fun k hk => okRule_ck (hok k hk)
    have hlen : len ≤ 64 := by rw [← HLL.out]; exact h64
    have hlen0 : 0 < len := by rw [← HLL.out]; exact h0
    have hdl := down_len L HOK.out (L.length - 1) ⟨r1, r2, r3, r4⟩ (by omega) hrk
    have har := area_max hrk
    rw [hz]
    clear hz hrk hrc h0 h64 hsh hok
    go_wp2_with fail
    have HB2 := Lib.hid (Below.next HB1.out (below_alloc w1 (.cells #[.int .u64 18446744073709551615, .int .u64 18446744073709551615, .int .u64 18446744073709551615] 42)))
    have HR2 := Lib.hid (HR1.out.later (below_alloc w1 (.cells #[.int .u64 18446744073709551615, .int .u64 18446744073709551615, .int .u64 18446744073709551615] 42)))
    have HV2 := Lib.hid (Bl3.start w1 18446744073709551615 18446744073709551615 18446744073709551615)
    have hs2 := World.size_alloc w1 (.cells #[.int .u64 18446744073709551615, .int .u64 18446744073709551615, .int .u64 18446744073709551615] 42)
    generalize w1.alloc (.cells #[.int .u64 18446744073709551615, .int .u64 18446744073709551615, .int .u64 18446744073709551615] 42) = w2 at *
    refine (cut_any r1 r2 r3 r4 a len cap L _ (HL.out.later HB2.out) HOK.out HSH.out hlen0 hlen HRK.out).mono ?_
    rintro e w3 ⟨⟨v, rfl, ho⟩, hB3⟩
    obtain ⟨pa, pc, rfl, hpi⟩ := ho.isOf cells5_len
    have HPA := Lib.hid ho
    have HB3 := Lib.hid (Below.next HB2.out hB3)
    have HV3 := Lib.hid (HV2.out.later hB3)
    have HR3 := Lib.hid (HR2.out.later hB3)
    have hs3 := hB3.size
    have HLT := Lib.hid (fun x (hx : x ∈ downL L (L.length - 1) ⟨r1, r2, r3, r4⟩) => downL_lt L (L.length - 1) ⟨r1, r2, r3, r4⟩ x hx)
    have HOV : Hid (∀ f : RV → W64, ovr f ⟨r1, r2, r3, r4⟩ L = ovW f L (downL L (L.length - 1) ⟨r1, r2, r3, r4⟩)) := fun f => rfl
    have hs1 := HB1.out.size
    clear ho hpi hB3 HB2 HV2 HR2 e1 e2 e3 e4 q1 q2 q3 o1 o2 o3 HF1 HR1 HB1
    generalize downL L (L.length - 1) ⟨r1, r2, r3, r4⟩ = D at *
    have hDn : D.length ≤ 1048576 := by omega
    clear hdl har
    generalize hnn : D.length = n at *
    have HNN := Lib.hid hnn
    clear hnn
    have hbase : w1.heap.size < w2.heap.size := by omega
    go_wp2_with fail
    go_loopw [23] (fun z wr => ∃ k : Nat, k ≤ n ∧ z = .int .i64 (k : Int) ∧ Hid (Bl3 wr w1.heap.size ((ovW RV.rd L (D.take k)).toNat : Int) ((ovW RV.wr L (D.take k)).toNat : Int) ((ovW RV.ow L (D.take k)).toNat : Int)) ∧ Hid (OwnP5 w2.heap.size wr (.slice pa n pc) D) ∧ Hid (Bl3 wr (w.heap.size + 1) 0 0 0) ∧ Below w.heap.size w wr) (fun z _ => n - (intOf z).toNat)
    case atStart => exact ⟨0, Nat.zero_le _, rfl, by rw [List.take_zero]; show Bl3 w3 w1.heap.size ((BitVec.allOnes 64 : W64).toNat : Int) ((BitVec.allOnes 64 : W64).toNat : Int) ((BitVec.allOnes 64 : W64).toNat : Int); rw [HONE.out]; exact HV3.out, HPA.out, HR3.out, HB3.out⟩
    case round =>
      obtain ⟨k, hk, rfl, HVr, HPr, HRr, hBr⟩ := hrel
      have HBr := Lib.hid hBr
      clear hBr
      by_cases hlt : k < n
      · have hkl : k < D.length := by rw [HNN.out]; exact hlt
        obtain ⟨g, rfl, hgl, c1, c2, c3, c4, c5⟩ := ownP5_at HPr.out k hkl
        have hx := HLT.out D[k] (List.getElem_mem hkl)
        have hstep : ∀ f : RV → W64, ovW f L (D.take (k + 1)) = ovW f L (D.take k) &&& f (ruleAt L D[k].2) := fun f => by
          rw [List.take_succ_eq_append_getElem hkl, ovW_snoc]
        have HSTEP := Lib.hid hstep
        clear hstep
        generalize D[k] = y at *
        obtain ⟨⟨y1, y2, y3, y4⟩, j⟩ := y
        dsimp only at *
        have hjl : j < len := by have := HLL.out; omega
        clear hx
        have hjL : j < L.length := by rw [HLL.out]; exact hjl
        obtain ⟨b, off, rfl, hrow⟩ := (HL.out.later HBr.out).2 hlen0
        have s := RowOf.seven hrow j hjL
        have hbl := hrow.1
        have HRA : Hid (ruleAt L j = L[j]) := ruleAt_get hjL
        clear hrow
        generalize L[j] = R at *
        obtain ⟨x1, x2, x3, x4, x5, x6, x7⟩ := R
        obtain ⟨_, _, _, _, s5, s6, s7⟩ := s
        obtain ⟨v1, v2, v3, f1, f2, f3⟩ := HVr.out.cells
        have hvl := HVr.out.lt
        have HA1 := Lib.hid (HSTEP.out RV.rd)
        have HA2 := Lib.hid (HSTEP.out RV.wr)
        have HA3 := Lib.hid (HSTEP.out RV.ow)
        rw [HRA.out] at HA1 HA2 HA3
        clear HSTEP
        generalize ovW RV.rd L (D.take k) = t1 at *
        generalize ovW RV.wr L (D.take k) = t2 at *
        generalize ovW RV.ow L (D.take k) = t3 at *
        dsimp only at *
        have HW1 := Lib.hid (bits_and t1 x5)
        have HW2 := Lib.hid (bits_and t2 x6)
        have HW3 := Lib.hid (bits_and t3 x7)
        go_wp2_with fail
        rw [HW1.out, HW2.out, HW3.out]
        obtain ⟨hv2, hgr⟩ := HVr.out.set ((t1 &&& x5).toNat : Int) ((t2 &&& x6).toNat : Int) ((t3 &&& x7).toNat : Int)
        have hown : OwnP5 w2.heap.size (((wr.setCell ⟨w1.heap.size, 0, none⟩ (.int .u64 ((t1 &&& x5).toNat : Int))).setCell ⟨w1.heap.size, 1, none⟩ (.int .u64 ((t2 &&& x6).toNat : Int))).setCell ⟨w1.heap.size, 2, none⟩ (.int .u64 ((t3 &&& x7).toNat : Int))) (.slice (some ⟨g, 0, none⟩) n pc) D :=
          ownsRow_setCell_below (ownsRow_setCell_below (ownsRow_setCell_below HPr.out hbase _) hbase _) hbase _
        have hres : Bl3 (((wr.setCell ⟨w1.heap.size, 0, none⟩ (.int .u64 ((t1 &&& x5).toNat : Int))).setCell ⟨w1.heap.size, 1, none⟩ (.int .u64 ((t2 &&& x6).toNat : Int))).setCell ⟨w1.heap.size, 2, none⟩ (.int .u64 ((t3 &&& x7).toNat : Int))) (w.heap.size + 1) 0 0 0 :=
          (hgr.block _ HRr.out.lt (by intro e; injection e with e; omega)).trans HRr.out
        have hbel := HBr.out.grown hgr HBr.out.size (fun q hq => by injection hq with hq; omega)
        clear hgr
        generalize ((wr.setCell ⟨w1.heap.size, 0, none⟩ (.int .u64 ((t1 &&& x5).toNat : Int))).setCell ⟨w1.heap.size, 1, none⟩ (.int .u64 ((t2 &&& x6).toNat : Int))).setCell ⟨w1.heap.size, 2, none⟩ (.int .u64 ((t3 &&& x7).toNat : Int)) = ws at *
        refine ⟨⟨k + 1, by omega, by go_num, ?_, (hown.alloc _).alloc _, (hres.later (below_alloc _ _)).later (below_alloc _ _), (hbel.alloc hbel.size _).alloc (by rw [World.size_alloc]; have := hbel.size; omega) _⟩, by simp [intOf]; omega⟩
        rw [HA1.out, HA2.out, HA3.out]
        exact (hv2.later (below_alloc _ _)).later (below_alloc _ _)
      · obtain rfl : k = n := by omega
        have HT : Hid (D.take k = D) := List.take_of_length_le (by rw [HNN.out]; exact Nat.le_refl _)
        rw [HT.out] at HVr
        have HD1 := Lib.hid (HOV.out RV.rd)
        have HD2 := Lib.hid (HOV.out RV.wr)
        have HD3 := Lib.hid (HOV.out RV.ow)
        generalize ovW RV.rd L D = t1 at *
        generalize ovW RV.wr L D = t2 at *
        generalize ovW RV.ow L D = t3 at *
        obtain ⟨v1, v2, v3, _⟩ := HVr.out.cells
        obtain ⟨q1, q2, q3, o1, o2, o3⟩ := HRr.out.cells
        have hvl := HVr.out.lt
        have hrl := HRr.out.lt
        go_wp2_with fail
        have hset := (HRr.out.set (t1.toNat : Int) (t2.toNat : Int) (t3.toNat : Int)).1.cells
        obtain ⟨z1, z2, z3, _⟩ := hset
        exact bodyPost_ret (v := .tuple #[.agg #[.int .u64 (t1.toNat : Int), .int .u64 (t2.toNat : Int), .int .u64 (t3.toNat : Int)], .int .i64 0]) (by simp [results, Try.results17, go_sem, z1, z2, z3]) rfl ⟨by rw [HE.out, HD1.out, HD2.out, HD3.out]; rfl, ((HBr.out.setCell (Nat.le_succ _) _).setCell (Nat.le_succ _) _).setCell (Nat.le_succ _) _⟩
  · have HZ := Lib.hid hz
    have HV : Hid (∀ f : RV → W64, ovV f ⟨r1, r2, r3, r4⟩ L = 0#64) := fun f => by unfold ovV; rw [if_neg hz]
    have HE : Hid (overV ⟨r1, r2, r3, r4⟩ L = .tuple #[.agg #[.int .u64 0, .int .u64 0, .int .u64 0], .int .i64 (gcE ⟨r1, r2, r3, r4⟩ L)]) := by unfold Hid overV; rw [HV.out, HV.out, HV.out]; rfl
    have hz1 : (gcE ⟨r1, r2, r3, r4⟩ L != 0) = true := by simpa using hz
    have hz2 : (gcE ⟨r1, r2, r3, r4⟩ L == 0) = false := by simpa using hz
    generalize gcE ⟨r1, r2, r3, r4⟩ L = g at *
    clear hz
    go_wp2_with fail
    exact bodyPost_ret (v := .tuple #[.agg #[.int .u64 0, .int .u64 0, .int .u64 0], .int .i64 g]) (by simp [results, Try.results17, go_sem, q1, q2, q3]) rfl ⟨by rw [HE.out], ((HB1.out.setCell (Nat.le_succ _) _).setCell (Nat.le_succ _) _).setCell (Nat.le_succ _) _⟩
end Go.Proofs.Ythgnhdfppmoooaa.Re
/- The statements' test of a range and rules; mathematics of rights over ranges. -/
namespace Go.Proofs.Ythgnhdfppmoooaa.Re
open Go.RowKit AM
def okA (r : R4) (L : List RV) : Bool := decide (L.length ≤ 40) && (decide ((rck 64 L).2 = 0) && r.ck)
theorem okA_iff {r : R4} {L : List RV} : okA r L = true ↔ L.length ≤ 40 ∧ gcE r L = 0 := by
  unfold okA
  rw [Bool.and_eq_true, Bool.and_eq_true, decide_eq_true_iff, decide_eq_true_iff, gcE_zero]
  constructor
  · rintro ⟨h1, h2, h3⟩; exact ⟨h1, h3, h2⟩
  · rintro ⟨h1, h3, h2⟩; exact ⟨h1, h2, h3⟩
/-- What the rights over a range say: the premises of ovr_bit from valid arguments. -/
theorem ovr_iff {f : RV → W64} {r : R4} {L : List RV} (h : gcE r L = 0) {b : Nat} (hb : b < 64) :
    (ovr f r L).getLsbD b = true ↔ ∀ p q, has4 r p q = true → (f (ruleAt L (lastI L p q L.length))).getLsbD b = true := by
  obtain ⟨hr, hc⟩ := gcE_zero.1 h
  obtain ⟨h0, h64, hs, hok⟩ := rck_zero.1 hc
  exact ovr_bit hr h0 (fun k hk => okRule_ck (hok k hk)) hs hb
theorem gcE_sub {r a : R4} {L : List RV} (h : gcE r L = 0) (ha : a.ck = true) : gcE a L = 0 := gcE_zero.2 ⟨ha, (gcE_zero.1 h).2⟩
/-- Two parts. -/
theorem ovr_two {f : RV → W64} {r a b : R4} {L : List RV} (h : gcE r L = 0) (ha : a.ck = true) (hb : b.ck = true) (hab : ∀ p q, has4 r p q = true ↔ has4 a p q = true ∨ has4 b p q = true) :
    ovr f r L = ovr f a L &&& ovr f b L := by
  apply BitVec.eq_of_getLsbD_eq
  intro i hi
  rw [BitVec.getLsbD_and, Bool.eq_iff_iff, Bool.and_eq_true, ovr_iff h hi, ovr_iff (gcE_sub h ha) hi, ovr_iff (gcE_sub h hb) hi]
  constructor
  · intro hh
    exact ⟨fun p q hp => hh p q ((hab p q).2 (.inl hp)), fun p q hp => hh p q ((hab p q).2 (.inr hp))⟩
  · rintro ⟨h1, h2⟩ p q hp
    rcases (hab p q).1 hp with h | h
    · exact h1 p q h
    · exact h2 p q h
theorem split_row {r1 r2 r3 r4 x : Int} (hr : (⟨r1, r2, r3, r4⟩ : R4).ck = true) (h1 : r2 ≤ x) (h2 : x < r4) :
    (⟨r1, r2, r3, x⟩ : R4).ck = true ∧ (⟨r1, x + 1, r3, r4⟩ : R4).ck = true ∧ ∀ p q, has4 ⟨r1, r2, r3, r4⟩ p q = true ↔ has4 ⟨r1, r2, r3, x⟩ p q = true ∨ has4 ⟨r1, x + 1, r3, r4⟩ p q = true := by
  unfold R4.ck at *
  rw [ckB_iff] at *
  dsimp only at *
  refine ⟨by omega, by rw [ckB_iff]; omega, fun p q => ?_⟩
  rw [has4_iff, has4_iff, has4_iff]
  dsimp only
  omega
theorem split_col {r1 r2 r3 r4 x : Int} (hr : (⟨r1, r2, r3, r4⟩ : R4).ck = true) (h1 : r1 ≤ x) (h2 : x < r3) :
    (⟨r1, r2, x, r4⟩ : R4).ck = true ∧ (⟨x + 1, r2, r3, r4⟩ : R4).ck = true ∧ ∀ p q, has4 ⟨r1, r2, r3, r4⟩ p q = true ↔ has4 ⟨r1, r2, x, r4⟩ p q = true ∨ has4 ⟨x + 1, r2, r3, r4⟩ p q = true := by
  unfold R4.ck at *
  rw [ckB_iff] at *
  dsimp only at *
  refine ⟨by omega, by rw [ckB_iff]; omega, fun p q => ?_⟩
  rw [has4_iff, has4_iff, has4_iff]
  dsimp only
  omega
end Go.Proofs.Ythgnhdfppmoooaa.Re
/- Rights over a range where a rule more is appended. -/
namespace Go.Proofs.Ythgnhdfppmoooaa
open Go Go.RowKit
section
variable {P : Program} {ops : Array Oper} {S : World → Prop} {Z : Nat} {L : List FB} {E U D : List (List Nat)} {A : (Nat → Value) → Act} {o : Oper} {i : Nat} {α : Type} {e : TypeId} {c : α → List Value} {n : Nat} {M : List α}
/-- A list of the region's own handed on. -/
theorem obo_mv {j : Nat} (hx : L.getD i dflFB = fbL e c n Z M) (hj : L.getD j dflFB = fbL e c n Z M) (hE : j ∈ E.getD i []) (hw : ∀ vs w, DepO L vs w (D.getD i []) → Region.wanted o (yielded ops (A vs).tmps) = true)
    (h : ∀ vs w, S w → DepO L vs w (D.getD i []) → (execOp (A vs).eval o).run P w = .ok (.value (vs j)) w ∧ OwnOf e c n Z w (vs j) M) : ObO P ops S Z L E U D A i o :=
  fun vs w hS _ hD => .inl ⟨hw vs w hD, by
    obtain ⟨hr, ho⟩ := h vs w hS hD
    unfold OperR; rw [hr]
    refine ⟨none, World.grownBy.refl w _, by simp, by show (L.getD i dflFB).1 _ _ _; rw [hx]; exact ho, fun g hg => ?_⟩
    have hg : (L.getD i dflFB).2 _ _ = some g := hg
    rw [hx] at hg
    have hg : (vs j).ownBlock = some g := hg
    exact ⟨(World.ownsRow.lt ho g hg).2, .inr ⟨j, hE, by show (L.getD j dflFB).2 _ _ = _; rw [hj]; exact hg⟩⟩⟩
end
end Go.Proofs.Ythgnhdfppmoooaa
namespace Go.Proofs.Ythgnhdfppmoooaa.Re
open Go.RowKit AM
theorem lastI_app (A : List RV) (x : RV) (p q : Int) : ∀ k, k ≤ A.length → lastI (A ++ [x]) p q k = lastI A p q k := by
  intro k
  induction k with
  | zero => intro _; rfl
  | succ k ih =>
    intro hk
    unfold lastI
    rw [List.getElem?_append_left (by omega), ih (by omega)]
theorem lastI_x (A : List RV) (x : RV) (p q : Int) : lastI (A ++ [x]) p q (A ++ [x]).length = if hasR x p q then A.length else lastI A p q A.length := by
  rw [List.length_append, List.length_singleton]
  cases h : hasR x p q
  · rw [lastI_f _ p q A.length (by simp) (by simpa using h), lastI_app _ _ _ _ _ (Nat.le_refl _)]; rfl
  · rw [lastI_t _ p q A.length (by simp) (by simpa using h)]; rfl
theorem isOf_heap {α : Type} {c : α → List Value} {n : Nat} {w : World} {g : Nat} {cs : Array Value} {t : TypeId} {x : α} (h : w.heap[g]? = some (.cells cs t)) (hx : cs = (c x).toArray) : IsOf c n w (some ⟨g, 0, none⟩) 1 [x] := by
  subst hx
  refine ⟨rfl, fun _ => ⟨g, 0, rfl, (Array.getElem?_eq_some_iff.1 h).1, fun k hk j v hv => ?_⟩⟩
  obtain rfl : k = 0 := by simp at hk; exact hk
  simp at hv
  simp [World.cell?, h, hv]
/-- The rule at an address, one more appended. -/
theorem rule_x (A : List RV) (x : RV) (p q : Int) (h0 : 0 < A.length) : ruleAt (A ++ [x]) (lastI (A ++ [x]) p q (A ++ [x]).length) = if hasR x p q then x else ruleAt A (lastI A p q A.length) := by
  rw [lastI_x]
  have hlt := lastI_lt A p q A.length h0
  cases hasR x p q
  · unfold ruleAt
    simp only [Bool.false_eq_true, if_false]
    rw [List.getD_eq_getElem?_getD, List.getD_eq_getElem?_getD, List.getElem?_append_left hlt]
  · unfold ruleAt
    simp
theorem gcE_len {r : R4} {L : List RV} (h : gcE r L = 0) : 0 < L.length := (rck_zero.1 (gcE_zero.1 h).2).1
theorem ovr_x {f : RV → W64} {r : R4} {L : List RV} {x : RV} (h : gcE r L = 0) (hx : gcE r (L ++ [x]) = 0) {b : Nat} (hb : b < 64) :
    (ovr f r (L ++ [x])).getLsbD b = true ↔ ∀ p q, has4 r p q = true → (f (if hasR x p q then x else ruleAt L (lastI L p q L.length))).getLsbD b = true := by
  rw [ovr_iff hx hb]
  constructor
  · intro hh p q hp
    have := hh p q hp
    rwa [rule_x L x p q (gcE_len h)] at this
  · intro hh p q hp
    rw [rule_x L x p q (gcE_len h)]
    exact hh p q hp
theorem ovr_apart {f : RV → W64} {r : R4} {L : List RV} {x : RV} (h : gcE r L = 0) (hx : gcE r (L ++ [x]) = 0) (ha : x.c1 > r.c2 ∨ r.c1 > x.c2 ∨ x.r1 > r.r2 ∨ r.r1 > x.r2) : ovr f r (L ++ [x]) = ovr f r L := by
  apply BitVec.eq_of_getLsbD_eq
  intro i hi
  rw [Bool.eq_iff_iff, ovr_x h hx hi, ovr_iff h hi]
  have hno : ∀ p q, has4 r p q = true → hasR x p q = false := fun p q hp => by
    rw [← Bool.not_eq_true]
    intro hh
    have h2 : has4 (rr4 x) p q = true := hh
    rw [has4_iff] at hp h2
    unfold rr4 at h2
    dsimp only at h2
    omega
  constructor
  · intro hh p q hp
    have := hh p q hp
    rwa [hno p q hp] at this
  · intro hh p q hp
    rw [hno p q hp]
    exact hh p q hp
theorem ovr_whole {f : RV → W64} {r : R4} {L : List RV} {x : RV} (h : gcE r L = 0) (hx : gcE r (L ++ [x]) = 0) (h1 : x.c1 ≤ r.c1) (h2 : r.c2 ≤ x.c2) (h3 : x.r1 ≤ r.r1) (h4 : r.r2 ≤ x.r2) : ovr f r (L ++ [x]) = f x := by
  apply BitVec.eq_of_getLsbD_eq
  intro i hi
  rw [Bool.eq_iff_iff, ovr_x h hx hi]
  have hall : ∀ p q, has4 r p q = true → hasR x p q = true := fun p q hp => by
    show has4 (rr4 x) p q = true
    rw [has4_iff] at hp ⊢
    unfold rr4
    dsimp only
    omega
  constructor
  · intro hh
    have hp := ck_has (gcE_zero.1 h).1
    have := hh _ _ hp
    rwa [hall _ _ hp] at this
  · intro hh p q hp
    rw [hall p q hp]
    exact hh
theorem ovr_part {f : RV → W64} {r : R4} {L : List RV} {x : RV} (h : gcE r L = 0) (hx : gcE r (L ++ [x]) = 0) (ha : ¬ (x.c1 > r.c2 ∨ r.c1 > x.c2 ∨ x.r1 > r.r2 ∨ r.r1 > x.r2)) : ovr f r (L ++ [x]) &&& ~~~(f x) = 0#64 := by
  have hxk : (rr4 x).ck = true := by
    have := okRule_ck ((rck_zero.1 (gcE_zero.1 hx).2).2.2.2 L.length (by simp))
    unfold ruleAt at this
    simpa using this
  have hrk := (gcE_zero.1 h).1
  apply BitVec.eq_of_getLsbD_eq
  intro i hi
  simp only [BitVec.getLsbD_and, BitVec.getLsbD_not, hi, decide_true, Bool.true_and, BitVec.getLsbD_zero]
  cases hb : (ovr f r (L ++ [x])).getLsbD i
  · rfl
  · have hh := (ovr_x h hx hi).1 hb
    unfold R4.ck at hxk hrk
    rw [ckB_iff] at hxk hrk
    unfold rr4 at hxk
    dsimp only at hxk
    have hp : has4 r (max r.c1 x.c1) (max r.r1 x.r1) = true := by rw [has4_iff]; omega
    have hq : hasR x (max r.c1 x.c1) (max r.r1 x.r1) = true := by
      show has4 (rr4 x) _ _ = true
      rw [has4_iff]; unfold rr4; dsimp only; omega
    have := hh _ _ hp
    rw [hq] at this
    simp only [if_true] at this
    rw [this]; rfl
end Go.Proofs.Ythgnhdfppmoooaa.Re
/- The contract of May. -/
namespace Go.Proofs.Ythgnhdfppmoooaa.Re
open Go.RowKit AM
def mayE (u : Int) (r : R4) (L : List RV) : Int := if gcE r L = 0 then (if vld u = true then 0 else 2) else gcE r L
def mayB (f : RV → W64) (u : Int) (r : R4) (L : List RV) : Bool := decide (gcE r L = 0) && (vld u && (ovr f r L).getLsbD u.toNat)
theorem retMay {a b a' b' : Bool} {e e' : Int} (h1 : a = a') (h2 : b = b') (h3 : e = e') : Ending.returned (.tuple #[.bool a, .bool b, .int .i64 e]) = .returned (.tuple #[.bool a', .bool b', .int .i64 e']) := by rw [h1, h2, h3]
end Go.Proofs.Ythgnhdfppmoooaa.Re
