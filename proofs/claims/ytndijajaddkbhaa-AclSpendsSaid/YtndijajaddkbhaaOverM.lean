/- The parts of a range by rules: mathematics. -/
import Derived.Test.YtndijajaddkbhaaAclC
import Derived.Test.YtndijajaddkbhaaRectV
namespace Go.Proofs.Ytndijajaddkbhaa.Re
open Go.RowKit AM
/-- A rule's range. -/
def rr4 (r : RV) : R4 := ⟨r.c1, r.r1, r.c2, r.r2⟩
def meet4 (a b : R4) : R4 := ⟨max a.c1 b.c1, max a.r1 b.r1, min a.c2 b.c2, min a.r2 b.r2⟩
theorem rr4_has (r : RV) (p q : Int) : has4 (rr4 r) p q = hasR r p q := rfl
theorem meet4_has (a b : R4) (p q : Int) : has4 (meet4 a b) p q = true ↔ has4 a p q = true ∧ has4 b p q = true := by
  rw [has4_iff, has4_iff, has4_iff]
  unfold meet4
  dsimp only
  omega
theorem mt4_parts {a b : R4} (h : mt4 a b = true) : a.ck = true ∧ b.ck = true ∧ max a.c1 b.c1 ≤ min a.c2 b.c2 ∧ max a.r1 b.r1 ≤ min a.r2 b.r2 := by
  have hc := mtB_ck h
  refine ⟨hc.1, hc.2, ?_⟩
  unfold mt4 mtB at h
  simp only [Bool.and_eq_true, Bool.not_eq_true'] at h
  have hem := h.1
  unfold emB at hem
  have := of_decide_eq_false hem
  omega
theorem mt4_no {a b : R4} (ha : a.ck = true) (hb : b.ck = true) (h : ¬ mt4 a b = true) (p q : Int) (hp : has4 a p q = true) : has4 b p q = false := by
  rw [← Bool.not_eq_true]
  intro hq
  apply h
  rw [has4_iff] at hp hq
  unfold mt4 mtB
  unfold R4.ck at ha hb
  rw [ha, hb]
  have : emB (max a.c1 b.c1) (max a.r1 b.r1) (min a.c2 b.c2) (min a.r2 b.r2) = false := by
    unfold emB
    apply decide_eq_false
    omega
  rw [this]; rfl
theorem meet4_ck {a b : R4} (h : mt4 a b = true) : (meet4 a b).ck = true := by
  obtain ⟨ha, hb, h1, h2⟩ := mt4_parts h
  unfold R4.ck at ha hb ⊢
  rw [ckB_iff] at ha hb ⊢
  unfold meet4
  dsimp only
  omega
/-- What is cut out of a range by the rules up to one, and which rule each part has. -/
def downL (L : List RV) : Nat → R4 → List (R4 × Nat)
  | 0, r => if mt4 r (rr4 (ruleAt L 0)) = true then [(meet4 r (rr4 (ruleAt L 0)), 0)] else []
  | i + 1, r => if mt4 r (rr4 (ruleAt L (i + 1))) = true then (meet4 r (rr4 (ruleAt L (i + 1))), i + 1) :: (mnL r (meet4 r (rr4 (ruleAt L (i + 1))))).flatMap (downL L i) else downL L i r
theorem ruleAt_get {L : List RV} {k : Nat} (h : k < L.length) : ruleAt L k = L[k] := by unfold ruleAt; simp [List.getD, h]
theorem down_ok (L : List RV) (hL : ∀ k, k < L.length → (rr4 (ruleAt L k)).ck = true) : ∀ (i : Nat) (r : R4), i < L.length → r.ck = true →
    ∀ x ∈ downL L i r, x.1.ck = true ∧ x.2 ≤ i ∧ ∀ p q, has4 x.1 p q = true → has4 r p q = true ∧ lastI L p q (i + 1) = x.2
  | 0, r, hi, hr, x, hx => by
    unfold downL at hx
    by_cases hm : mt4 r (rr4 (ruleAt L 0)) = true
    · rw [if_pos hm] at hx
      simp only [List.mem_singleton] at hx
      subst hx
      exact ⟨meet4_ck hm, Nat.le_refl _, fun p q h => ⟨((meet4_has _ _ p q).1 h).1, lastI_one L p q⟩⟩
    · rw [if_neg hm] at hx; cases hx
  | i + 1, r, hi, hr, x, hx => by
    have hR := hL (i + 1) hi
    unfold downL at hx
    by_cases hm : mt4 r (rr4 (ruleAt L (i + 1))) = true
    · rw [if_pos hm] at hx
      rcases List.mem_cons.1 hx with rfl | hx
      · refine ⟨meet4_ck hm, Nat.le_refl _, fun p q h => ?_⟩
        obtain ⟨h1, h2⟩ := (meet4_has _ _ p q).1 h
        rw [rr4_has, ruleAt_get hi] at h2
        exact ⟨h1, lastI_t L p q (i + 1) hi h2⟩
      · obtain ⟨y, hy, hx⟩ := List.mem_flatMap.1 hx
        have hyck := (mnL_ck hr (meet4_ck hm)).1 y hy
        obtain ⟨g1, g2, g3⟩ := down_ok L hL i y (by omega) hyck x hx
        refine ⟨g1, by omega, fun p q h => ?_⟩
        obtain ⟨h1, h2⟩ := g3 p q h
        have hin := in_mn hr (meet4_ck hm) p q
        have : inL (mnL r (meet4 r (rr4 (ruleAt L (i + 1))))) p q = true := inL_iff.2 ⟨y, hy, h1⟩
        rw [this] at hin
        have hin := hin.symm
        rw [Bool.and_eq_true, Bool.not_eq_true', ← Bool.not_eq_true] at hin
        refine ⟨hin.1, ?_⟩
        have hno : hasR L[i + 1] p q = false := by
          rw [← Bool.not_eq_true]
          intro hh
          exact hin.2 ((meet4_has _ _ p q).2 ⟨hin.1, by rw [rr4_has, ruleAt_get hi]; exact hh⟩)
        rw [lastI_f L p q (i + 1) hi hno]
        exact h2
    · rw [if_neg hm] at hx
      obtain ⟨g1, g2, g3⟩ := down_ok L hL i r (by omega) hr x hx
      refine ⟨g1, by omega, fun p q h => ?_⟩
      obtain ⟨h1, h2⟩ := g3 p q h
      have hno := mt4_no hr hR hm p q h1
      rw [rr4_has, ruleAt_get hi] at hno
      exact ⟨h1, by rw [lastI_f L p q (i + 1) hi hno]; exact h2⟩
theorem down_cov (L : List RV) (hL : ∀ k, k < L.length → (rr4 (ruleAt L k)).ck = true) (h0 : isSheet (ruleAt L 0) = true) : ∀ (i : Nat) (r : R4), i < L.length → r.ck = true → ∀ p q, has4 r p q = true → ∃ x ∈ downL L i r, has4 x.1 p q = true
  | 0, r, hi, hr, p, q, h => by
    unfold downL
    have hs : has4 (rr4 (ruleAt L 0)) p q = true := by
      unfold isSheet at h0
      have h0 := of_decide_eq_true h0
      unfold R4.ck at hr
      rw [ckB_iff] at hr
      rw [has4_iff] at h ⊢
      unfold rr4
      dsimp only
      omega
    by_cases hm : mt4 r (rr4 (ruleAt L 0)) = true
    · rw [if_pos hm]
      exact ⟨_, List.mem_singleton.2 rfl, (meet4_has _ _ p q).2 ⟨h, hs⟩⟩
    · have := mt4_no hr (hL 0 hi) hm p q h
      rw [hs] at this; cases this
  | i + 1, r, hi, hr, p, q, h => by
    unfold downL
    by_cases hm : mt4 r (rr4 (ruleAt L (i + 1))) = true
    · rw [if_pos hm]
      by_cases hin : has4 (rr4 (ruleAt L (i + 1))) p q = true
      · exact ⟨_, List.mem_cons_self .., (meet4_has _ _ p q).2 ⟨h, hin⟩⟩
      · have hi2 := in_mn hr (meet4_ck hm) p q
        have : has4 (meet4 r (rr4 (ruleAt L (i + 1)))) p q = false := by
          rw [← Bool.not_eq_true]; intro hh; exact hin ((meet4_has _ _ p q).1 hh).2
        rw [h, this] at hi2
        obtain ⟨y, hy, h1⟩ := inL_iff.1 hi2
        obtain ⟨x, hx, h2⟩ := down_cov L hL h0 i y (by omega) ((mnL_ck hr (meet4_ck hm)).1 y hy) p q h1
        exact ⟨x, List.mem_cons_of_mem _ (List.mem_flatMap.2 ⟨y, hy, hx⟩), h2⟩
    · rw [if_neg hm]
      exact down_cov L hL h0 i r (by omega) hr p q h
/-- A valid range has an address. -/
theorem ck_has {r : R4} (h : r.ck = true) : has4 r r.c1 r.r1 = true := by
  unfold R4.ck at h
  rw [ckB_iff] at h
  rw [has4_iff]
  omega
/-- The sets of all parts, met. -/
def ovW (f : RV → W64) (L : List RV) (l : List (R4 × Nat)) : W64 := l.foldl (fun a x => a &&& f (ruleAt L x.2)) (BitVec.allOnes 64)
theorem ovW_snoc (f : RV → W64) (L : List RV) (l : List (R4 × Nat)) (x : R4 × Nat) : ovW f L (l ++ [x]) = ovW f L l &&& f (ruleAt L x.2) := by unfold ovW; simp
theorem fold_bit (f : RV → W64) (L : List RV) (b : Nat) : ∀ (l : List (R4 × Nat)) (a : W64), (l.foldl (fun a x => a &&& f (ruleAt L x.2)) a).getLsbD b = (a.getLsbD b && l.all fun x => (f (ruleAt L x.2)).getLsbD b)
  | [], a => by simp
  | x :: l, a => by rw [List.foldl_cons, fold_bit f L b l, BitVec.getLsbD_and, List.all_cons, Bool.and_assoc]
theorem ovW_bit (f : RV → W64) (L : List RV) (l : List (R4 × Nat)) (b : Nat) (hb : b < 64) : (ovW f L l).getLsbD b = l.all fun x => (f (ruleAt L x.2)).getLsbD b := by
  unfold ovW
  have h1 : (BitVec.allOnes 64).getLsbD b = true := by rw [BitVec.getLsbD_allOnes]; exact decide_eq_true hb
  rw [fold_bit, h1, Bool.true_and]
/-- The rights over a range. -/
def ovr (f : RV → W64) (r : R4) (L : List RV) : W64 := ovW f L (downL L (L.length - 1) r)
theorem ovr_bit {f : RV → W64} {r : R4} {L : List RV} (hr : r.ck = true) (h1 : 0 < L.length) (hL : ∀ k, k < L.length → (rr4 (ruleAt L k)).ck = true) (h0 : isSheet (ruleAt L 0) = true) {b : Nat} (hb : b < 64) :
    (ovr f r L).getLsbD b = true ↔ ∀ p q, has4 r p q = true → (f (ruleAt L (lastI L p q L.length))).getLsbD b = true := by
  unfold ovr
  rw [ovW_bit f L _ b hb, List.all_eq_true]
  have hlen : L.length - 1 + 1 = L.length := by omega
  constructor
  · intro h p q hh
    obtain ⟨x, hx, hxh⟩ := down_cov L hL h0 (L.length - 1) r (by omega) hr p q hh
    obtain ⟨_, _, g⟩ := down_ok L hL (L.length - 1) r (by omega) hr x hx
    have := (g p q hxh).2
    rw [hlen] at this
    rw [this]
    exact h x hx
  · intro h x hx
    obtain ⟨g1, _, g⟩ := down_ok L hL (L.length - 1) r (by omega) hr x hx
    have hx1 := ck_has g1
    obtain ⟨h2, h3⟩ := g _ _ hx1
    rw [hlen] at h3
    rw [← h3]
    exact h _ _ h2
end Go.Proofs.Ytndijajaddkbhaa.Re
