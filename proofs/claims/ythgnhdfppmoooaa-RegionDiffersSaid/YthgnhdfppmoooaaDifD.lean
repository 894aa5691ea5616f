/- The contract of the specification's Differing. -/
import Derived.Test.YthgnhdfppmoooaaDifS
import Derived.Test.YthgnhdfppmoooaaAclD
namespace Go.Proofs.Ythgnhdfppmoooaa.Re
open Go.RowKit AM
set_option linter.unusedVariables false
set_option linter.unusedSimpArgs false
def difF (A B : List RV) (p q : Int) : Bool := !((ruleAt A (lastI A p q A.length)).rd == (ruleAt B (lastI B p q B.length)).rd)
theorem nxt_app (l : List Int) (y hi x : Int) : nxt (l ++ [y]) hi x = if x < y then min (nxt l hi x) y else nxt l hi x := by unfold nxt; rw [List.foldl_append]; rfl
theorem nxt_gt {l : List Int} {hi x : Int} (h : x < hi) : x + 1 ≤ nxt l hi x := (nxt_iff x (x + 1) l hi).2 ⟨by omega, fun y _ hy => by omega⟩
theorem nxt_le (l : List Int) (hi x : Int) : nxt l hi x ≤ hi := ((nxt_iff x (nxt l hi x) l hi).1 (Int.le_refl _)).1
theorem mul_bound {x y : Int} (h1 : 1 ≤ x) (h2 : x ≤ 1024) (h3 : 1 ≤ y) (h4 : y ≤ 1024) : 1 ≤ x * y ∧ x * y ≤ 1048576 := by
  have e1 : 1 * 1 ≤ x * y := Int.mul_le_mul h1 h3 (by omega) (by omega)
  have e2 : x * y ≤ 1024 * 1024 := Int.mul_le_mul h2 h4 (by omega) (by omega)
  omega
theorem ptsL_max {r : R4} {L : List RV} (hr : r.ck = true) : (ptsL r L).length ≤ 1048576 := by
  have e : ptsL r L = (rowsP r L).flatMap (lineP (colsP r L)) := rfl
  unfold R4.ck at hr
  rw [ckB_iff] at hr
  rw [e, lines_len]
  have h1 : (rowsP r L).length ≤ hei4 r := cutL_len _ _ _
  have h2 : (colsP r L).length ≤ wid4 r := cutL_len _ _ _
  exact Nat.le_trans (Nat.mul_le_mul (Nat.le_trans h1 (show hei4 r ≤ 1024 by unfold hei4; omega)) (Nat.le_trans h2 (show wid4 r ≤ 1024 by unfold wid4; omega))) (by decide)
/-- The sum over the first k addresses of the grid. -/
def ptK (f : Int → Int → Bool) (l : List (Int × Int)) (hc hr : Int) (k : Nat) : Int := ((l.take k).map fun x => if f x.1 x.2 then (nxt (l.map (·.1)) hc x.1 - x.1) * (nxt (l.map (·.2)) hr x.2 - x.2) else 0).sum
theorem ptK_succ (f : Int → Int → Bool) (l : List (Int × Int)) (hc hr : Int) (k : Nat) (h : k < l.length) : ptK f l hc hr (k + 1) = ptK f l hc hr k + (if f l[k].1 l[k].2 then (nxt (l.map (·.1)) hc l[k].1 - l[k].1) * (nxt (l.map (·.2)) hr l[k].2 - l[k].2) else 0) := by
  unfold ptK
  rw [List.take_succ_eq_append_getElem h, List.map_append, List.sum_append]
  simp
theorem ptK_all (f : Int → Int → Bool) (l : List (Int × Int)) (hc hr : Int) : ptK f l hc hr l.length = ptSum f l hc hr := by unfold ptK ptSum; rw [List.take_length]
theorem ptK_le (f : Int → Int → Bool) (l : List (Int × Int)) (hc hr : Int) (hin : ∀ x ∈ l, x.1 < hc ∧ x.2 < hr) : ∀ d k, k + d = l.length → 0 ≤ ptK f l hc hr k ∧ ptK f l hc hr k ≤ ptSum f l hc hr := by
  have pos : ∀ k (h : k < l.length), 0 ≤ (if f l[k].1 l[k].2 then (nxt (l.map (·.1)) hc l[k].1 - l[k].1) * (nxt (l.map (·.2)) hr l[k].2 - l[k].2) else 0) := fun k h => by
    split
    · have h1 := nxt_gt (l := l.map (·.1)) (hin _ (List.getElem_mem h)).1
      have h2 := nxt_gt (l := l.map (·.2)) (hin _ (List.getElem_mem h)).2
      exact Int.mul_nonneg (by omega) (by omega)
    · omega
  have low : ∀ k, k ≤ l.length → 0 ≤ ptK f l hc hr k := by
    intro k
    induction k with
    | zero => intro _; simp [ptK]
    | succ k ih =>
      intro hk
      rw [ptK_succ f l hc hr k (by omega)]
      have := ih (by omega); have := pos k (by omega); omega
  intro d
  induction d with
  | zero => intro k hk; refine ⟨low k (by omega), ?_⟩; rw [show k = l.length by omega, ptK_all]; exact Int.le_refl _
  | succ d ih =>
    intro k hk
    refine ⟨low k (by omega), ?_⟩
    have h1 := (ih (k + 1) (by omega)).2
    rw [ptK_succ f l hc hr k (by omega)] at h1
    have := pos k (by omega)
    omega
theorem ck_app {A B : List RV} (hA : ∀ k, k < A.length → (rr4 (ruleAt A k)).ck = true) (hB : ∀ k, k < B.length → (rr4 (ruleAt B k)).ck = true) : ∀ k, k < (A ++ B).length → (rr4 (ruleAt (A ++ B) k)).ck = true := by
  intro k hk
  rw [ruleAt_get hk]
  rcases Nat.lt_or_ge k A.length with h | h
  · rw [List.getElem_append_left h, ← ruleAt_get h]; exact hA k h
  · rw [List.getElem_append_right h, ← ruleAt_get]; exact hB _ (by rw [List.length_append] at hk; omega)
theorem difF_same {A B : List RV} (p q p' q' : Int) (h : ∀ R ∈ A ++ B, hasR R p q = hasR R p' q') : difF A B p q = difF A B p' q' := by
  unfold difF
  rw [lastI_congr (L := A) (p' := p') (q' := q') (fun R hR => h R (List.mem_append_left _ hR)) _ (Nat.le_refl _), lastI_congr (L := B) (p' := p') (q' := q') (fun R hR => h R (List.mem_append_right _ hR)) _ (Nat.le_refl _)]
theorem cnt_le (f : Int → Int → Bool) {r : R4} (hr : r.ck = true) : cnt f r ≤ 1048576 := by
  have h1 : ∀ q c n, rowN f q c n ≤ n := fun q c n => by
    induction n with
    | zero => simp [rowN]
    | succ n ih => unfold rowN; split <;> omega
  have h2 : ∀ c (w : Nat) r (h : Nat), cntN f c w r h ≤ (w : Int) * h := fun c w r h => by
    induction h with
    | zero => simp [cntN]
    | succ h ih =>
      unfold cntN
      have := h1 (r + h) c w
      rw [show ((h + 1 : Nat) : Int) = (h : Int) + 1 by omega, Int.mul_add, Int.mul_one]
      omega
  have h3 := area_max hr
  have h4 := h2 r.c1 (r.c2 - r.c1 + 1).toNat r.r1 (r.r2 - r.r1 + 1).toNat
  unfold R4.ck at hr
  rw [ckB_iff] at hr
  unfold area4 at h3
  rw [show (((r.c2 - r.c1 + 1).toNat : Nat) : Int) = r.c2 - r.c1 + 1 by omega, show (((r.r2 - r.r1 + 1).toNat : Nat) : Int) = r.r2 - r.r1 + 1 by omega] at h4
  unfold cnt
  omega
end Go.Proofs.Ythgnhdfppmoooaa.Re
