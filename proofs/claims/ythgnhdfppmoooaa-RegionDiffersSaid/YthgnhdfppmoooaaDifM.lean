/- How many addresses of a range have a property: mathematics of Differ. -/
import Derived.Test.YthgnhdfppmoooaaMprt
namespace Go.Proofs.Ythgnhdfppmoooaa.Re
open Go.RowKit AM
set_option linter.unusedVariables false
set_option linter.unusedSimpArgs false
/-- Of n addresses of row q, from column c on. -/
def rowN (f : Int → Int → Bool) (q c : Int) : Nat → Int
  | 0 => 0
  | n + 1 => rowN f q c n + (if f (c + n) q then 1 else 0)
/-- Of h rows of w addresses. -/
def cntN (f : Int → Int → Bool) (c : Int) (w : Nat) (r : Int) : Nat → Int
  | 0 => 0
  | h + 1 => cntN f c w r h + rowN f (r + h) c w
def cnt (f : Int → Int → Bool) (x : R4) : Int := cntN f x.c1 (x.c2 - x.c1 + 1).toNat x.r1 (x.r2 - x.r1 + 1).toNat
theorem rowN_add (f : Int → Int → Bool) (q c : Int) (n : Nat) : ∀ m, rowN f q c (n + m) = rowN f q c n + rowN f q (c + n) m
  | 0 => by simp [rowN]
  | m + 1 => by
    show rowN f q c (n + m) + (if f (c + ((n + m : Nat) : Int)) q then 1 else 0) = rowN f q c n + (rowN f q (c + n) m + (if f (c + n + m) q then 1 else 0))
    rw [rowN_add f q c n m, show c + ((n + m : Nat) : Int) = c + n + m by omega]
    omega
theorem cntN_rows (f : Int → Int → Bool) (c : Int) (w : Nat) (r : Int) (h : Nat) : ∀ k, cntN f c w r (h + k) = cntN f c w r h + cntN f c w (r + h) k
  | 0 => by simp [cntN]
  | k + 1 => by
    show cntN f c w r (h + k) + rowN f (r + ((h + k : Nat) : Int)) c w = cntN f c w r h + (cntN f c w (r + h) k + rowN f (r + h + k) c w)
    rw [cntN_rows f c w r h k, show r + ((h + k : Nat) : Int) = r + h + k by omega]
    omega
theorem cntN_cols (f : Int → Int → Bool) (c : Int) (v w : Nat) (r : Int) : ∀ h, cntN f c (v + w) r h = cntN f c v r h + cntN f (c + v) w r h
  | 0 => rfl
  | h + 1 => by
    unfold cntN
    rw [cntN_cols f c v w r h, rowN_add]
    omega
theorem cntN_none (f : Int → Int → Bool) (c r : Int) : ∀ h, cntN f c 0 r h = 0
  | 0 => rfl
  | h + 1 => by unfold cntN; rw [cntN_none f c r h]; rfl
theorem cnt_em {f : Int → Int → Bool} {x : R4} (h : x.em = true) : cnt f x = 0 := by
  unfold R4.em emB at h
  have h := of_decide_eq_true h
  unfold cnt
  rcases h with h | h
  · rw [show (x.c2 - x.c1 + 1).toNat = 0 by omega]; exact cntN_none _ _ _ _
  · rw [show (x.r2 - x.r1 + 1).toNat = 0 by omega]; rfl
theorem rowN_const (f : Int → Int → Bool) (b : Bool) (q c : Int) : ∀ n, (∀ i : Nat, i < n → f (c + i) q = b) → rowN f q c n = if b then (n : Int) else 0
  | 0, _ => by cases b <;> rfl
  | n + 1, h => by
    unfold rowN
    rw [rowN_const f b q c n (fun i hi => h i (by omega)), h n (by omega)]
    cases b
    · simp
    · simp
theorem cntN_const (f : Int → Int → Bool) (b : Bool) (c : Int) (w : Nat) (r : Int) : ∀ h, (∀ i j : Nat, i < w → j < h → f (c + i) (r + j) = b) → cntN f c w r h = if b then (w : Int) * h else 0
  | 0, _ => by cases b <;> simp [cntN]
  | h + 1, hh => by
    unfold cntN
    rw [cntN_const f b c w r h (fun i j hi hj => hh i j hi (by omega)), rowN_const f b (r + h) c w (fun i hi => hh i h hi (by omega))]
    cases b
    · simp
    · simp only [if_true]
      rw [show ((h + 1 : Nat) : Int) = (h : Int) + 1 by omega, Int.mul_add, Int.mul_one]
theorem cnt_const {f : Int → Int → Bool} {b : Bool} {x : R4} (hx : x.ck = true) (h : ∀ p q, has4 x p q = true → f p q = b) : cnt f x = if b then area4 x else 0 := by
  have hc := hx
  unfold R4.ck at hc
  rw [ckB_iff] at hc
  unfold cnt
  rw [cntN_const f b _ _ _ _ (fun i j hi hj => h _ _ (by rw [has4_iff]; omega))]
  cases b
  · rfl
  · simp only [if_true]
    unfold area4
    rw [show (((x.c2 - x.c1 + 1).toNat : Nat) : Int) = x.c2 - x.c1 + 1 by omega, show (((x.r2 - x.r1 + 1).toNat : Nat) : Int) = x.r2 - x.r1 + 1 by omega]
def cnts (f : Int → Int → Bool) (l : List R4) : Int := (l.map (cnt f)).sum
theorem cnts_app (f : Int → Int → Bool) (l m : List R4) : cnts f (l ++ m) = cnts f l + cnts f m := by unfold cnts; simp
theorem cnts_some (f : Int → Int → Bool) : ∀ l : List R4, cnts f (some4 l) = cnts f l
  | [] => rfl
  | x :: l => by
    have ih := cnts_some f l
    unfold some4 cnts at ih ⊢
    rw [List.filter_cons]
    cases he : x.em
    · simp only [Bool.not_false, if_true, List.map_cons, List.sum_cons]; rw [ih]
    · simp only [Bool.not_true, Bool.false_eq_true, if_false, List.map_cons, List.sum_cons]; rw [ih, cnt_em he]; omega
theorem cnt_cut {f : Int → Int → Bool} {a b : R4} (hm : mt4 a b = true) : cnts f (some4 (cut4 a b)) + cnt f (meet4 a b) = cnt f a := by
  obtain ⟨ha, hb, n1, n2⟩ := mt4_parts hm
  rw [cnts_some]
  unfold R4.ck at ha hb
  rw [ckB_iff] at ha hb
  obtain ⟨a1, a2, a3, a4⟩ := a
  obtain ⟨b1, b2, b3, b4⟩ := b
  dsimp only at *
  unfold cnts cut4 meet4 cnt
  simp only [List.map_cons, List.map_nil, List.sum_cons, List.sum_nil]
  obtain ⟨l, hl⟩ : ∃ l : Nat, (l : Int) = max a1 b1 - a1 := ⟨(max a1 b1 - a1).toNat, by omega⟩
  obtain ⟨t, ht⟩ : ∃ t : Nat, (t : Int) = max a2 b2 - a2 := ⟨(max a2 b2 - a2).toNat, by omega⟩
  obtain ⟨m, hm'⟩ : ∃ m : Nat, (m : Int) = min a3 b3 - max a1 b1 + 1 := ⟨(min a3 b3 - max a1 b1 + 1).toNat, by omega⟩
  obtain ⟨k, hk⟩ : ∃ k : Nat, (k : Int) = min a4 b4 - max a2 b2 + 1 := ⟨(min a4 b4 - max a2 b2 + 1).toNat, by omega⟩
  obtain ⟨g, hg⟩ : ∃ g : Nat, (g : Int) = a3 - min a3 b3 := ⟨(a3 - min a3 b3).toNat, by omega⟩
  obtain ⟨u, hu⟩ : ∃ u : Nat, (u : Int) = a4 - min a4 b4 := ⟨(a4 - min a4 b4).toNat, by omega⟩
  rw [show (a3 - a1 + 1).toNat = l + m + g by omega, show (max a2 b2 - 1 - a2 + 1).toNat = t by omega, show (max a1 b1 - 1 - a1 + 1).toNat = l by omega, show (min a4 b4 - max a2 b2 + 1).toNat = k by omega, show (a3 - (min a3 b3 + 1) + 1).toNat = g by omega, show (a4 - (min a4 b4 + 1) + 1).toNat = u by omega, show (min a3 b3 - max a1 b1 + 1).toNat = m by omega, show (a4 - a2 + 1).toNat = t + k + u by omega]
  rw [show max a2 b2 = a2 + t by omega, show min a4 b4 + 1 = a2 + ((t + k : Nat) : Int) by omega, show max a1 b1 = a1 + l by omega, show min a3 b3 + 1 = a1 + ((l + m : Nat) : Int) by omega]
  have e1 := cntN_rows f a1 (l + m + g) a2 (t + k) u
  have e2 := cntN_rows f a1 (l + m + g) a2 t k
  have e3 := cntN_cols f a1 (l + m) g (a2 + t) k
  have e4 := cntN_cols f a1 l m (a2 + t) k
  omega
theorem mn_cnt {f : Int → Int → Bool} {r b : R4} (hm : mt4 r b = true) : cnts f (mnL r (meet4 r b)) + cnt f (meet4 r b) = cnt f r := by
  have hc := meet4_ck hm
  have hr := (mt4_parts hm).1
  have h2 := mt4_meet hm
  unfold mnL
  rw [hr, hc]
  simp only [Bool.and_self, if_true]
  rw [if_pos h2]
  have := cnt_cut (f := f) h2
  rw [meet4_twice] at this
  exact this
theorem cnts_flat (f : Int → Int → Bool) (g : R4 → List (R4 × Nat)) : ∀ (l : List R4), (∀ x ∈ l, cnts f ((g x).map (·.1)) = cnt f x) → cnts f ((l.flatMap g).map (·.1)) = cnts f l
  | [], _ => rfl
  | x :: l, h => by
    rw [List.flatMap_cons, List.map_append, cnts_app, h x (List.mem_cons_self ..), cnts_flat f g l fun y hy => h y (List.mem_cons_of_mem _ hy)]
    unfold cnts
    simp
/-- The parts of a range have, all together, as many. -/
theorem down_cnt (f : Int → Int → Bool) (L : List RV) (hL : ∀ k, k < L.length → (rr4 (ruleAt L k)).ck = true) (h0 : isSheet (ruleAt L 0) = true) : ∀ (i : Nat) (r : R4), i < L.length → r.ck = true → cnts f ((downL L i r).map (·.1)) = cnt f r
  | 0, r, hi, hr => by
    obtain ⟨h1, h2⟩ := sheet_meet h0 hr (hL 0 hi)
    unfold downL
    rw [if_pos h1, h2]
    simp [cnts]
  | i + 1, r, hi, hr => by
    have hR := hL (i + 1) hi
    unfold downL
    by_cases hm : mt4 r (rr4 (ruleAt L (i + 1))) = true
    · rw [if_pos hm, List.map_cons]
      have hmn := mnL_ck hr (meet4_ck hm)
      have h1 := cnts_flat f (downL L i) (mnL r (meet4 r (rr4 (ruleAt L (i + 1))))) fun x hx => down_cnt f L hL h0 i x (by omega) (hmn.1 x hx)
      have h2 := mn_cnt (f := f) hm
      unfold cnts at h1 h2 ⊢
      rw [List.map_cons, List.sum_cons, h1]
      dsimp only
      omega
    · rw [if_neg hm]
      exact down_cnt f L hL h0 i r (by omega) hr
/-- What Differ keeps: the parts of the parts whose readers differ. -/
def difL (A B : List RV) (g : RV → RV → Bool) (r : R4) : List (R4 × Nat) := (downL A (A.length - 1) r).flatMap fun x => (downL B (B.length - 1) x.1).filter fun y => g (ruleAt A x.2) (ruleAt B y.2)
theorem areas_filter (f : Int → Int → Bool) (g : R4 × Nat → Bool) : ∀ l : List (R4 × Nat), (∀ y ∈ l, y.1.ck = true ∧ ∀ p q, has4 y.1 p q = true → f p q = g y) → areas ((l.filter g).map (·.1)) = cnts f (l.map (·.1))
  | [], _ => rfl
  | y :: l, h => by
    have ih := areas_filter f g l fun z hz => h z (List.mem_cons_of_mem _ hz)
    obtain ⟨h1, h2⟩ := h y (List.mem_cons_self ..)
    have hc := cnt_const h1 h2
    rw [List.filter_cons]
    unfold areas cnts at ih ⊢
    cases hg : g y
    · rw [hg] at hc
      simp only [Bool.false_eq_true, if_false, List.map_cons, List.sum_cons] at hc ⊢
      rw [ih, hc]; omega
    · rw [hg] at hc
      simp only [if_true, List.map_cons, List.sum_cons] at hc ⊢
      rw [ih, hc]
/-- The areas of what Differ keeps are as many as the addresses at which the readers differ. -/
theorem dif_areas (A B : List RV) (g : RV → RV → Bool) (hA : ∀ k, k < A.length → (rr4 (ruleAt A k)).ck = true) (hB : ∀ k, k < B.length → (rr4 (ruleAt B k)).ck = true) (hA0 : isSheet (ruleAt A 0) = true) (hB0 : isSheet (ruleAt B 0) = true) (hAl : 0 < A.length) (hBl : 0 < B.length) (r : R4) (hr : r.ck = true) :
    areas ((difL A B g r).map (·.1)) = cnt (fun p q => g (ruleAt A (lastI A p q A.length)) (ruleAt B (lastI B p q B.length))) r := by
  obtain ⟨f, hf⟩ : ∃ f : Int → Int → Bool, f = fun p q => g (ruleAt A (lastI A p q A.length)) (ruleAt B (lastI B p q B.length)) := ⟨_, rfl⟩
  rw [← hf, ← down_cnt f A hA hA0 (A.length - 1) r (by omega) hr]
  have hd := down_ok A hA (A.length - 1) r (by omega) hr
  unfold difL
  generalize downL A (A.length - 1) r = l at *
  induction l with
  | nil => rfl
  | cons x l ih =>
    have ih := ih fun y hy => hd y (List.mem_cons_of_mem _ hy)
    obtain ⟨x1, x2, x3⟩ := hd x (List.mem_cons_self ..)
    rw [show A.length - 1 + 1 = A.length by omega] at x3
    rw [List.flatMap_cons, List.map_append, areas_app, ih]
    have hdb := down_ok B hB (B.length - 1) x.1 (by omega) x1
    rw [areas_filter f _ _ fun y hy => ?_, down_cnt f B hB hB0 (B.length - 1) x.1 (by omega) x1]
    · unfold cnts; simp
    · obtain ⟨y1, y2, y3⟩ := hdb y hy
      rw [show B.length - 1 + 1 = B.length by omega] at y3
      refine ⟨y1, fun p q hp => ?_⟩
      obtain ⟨h1, h2⟩ := y3 p q hp
      rw [hf]
      dsimp only
      rw [(x3 p q h1).2, h2]
end Go.Proofs.Ythgnhdfppmoooaa.Re
