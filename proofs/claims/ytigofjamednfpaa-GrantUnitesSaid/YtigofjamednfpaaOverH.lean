/- Rights over a range where a rule more is appended. -/
import Derived.Test.YtigofjamednfpaaOverG
import Derived.Test.YtigofjamednfpaaAclD
namespace Go.Proofs.Ytigofjamednfpaa
open Go Go.RowKit
section
variable {P : Program} {ops : Array Oper} {S : World → Prop} {Z : Nat} {L : List FB} {E U D : List (List Nat)} {A : (Nat → Value) → Act} {o : Oper} {i : Nat} {α : Type} {e : TypeId} {c : α → List Value} {n : Nat} {M : List α}
/-- A list of the region's own handed on. -/
theorem obo_mv {j : Nat} (hx : L.getD i dflFB = fbL e c n Z M) (hj : L.getD j dflFB = fbL e c n Z M) (hE : j ∈ E.getD i []) (hw : ∀ vs w, DepO L vs w (D.getD i []) → Region.wanted o (yielded ops (A vs).tmps) = true)
    (h : ∀ vs w, S w → DepO L vs w (D.getD i []) → (execOp (A vs).eval o).run P w = .ok (.value (vs j)) w ∧ OwnOf e c n Z w (vs j) M) : ObO P ops S Z L E U D A i o :=
  fun vs w hS _ hD => .inl ⟨hw vs w hD, by
    obtain ⟨hr, ho⟩ := h vs w hS hD
    unfold OperR; rw [hr]
    refine ⟨none, World.grownBy.refl w _, by simp, by show (L.getD i dflFB).1 _ _ _; rw [hx]; exact ho, fun g hg => ?_⟩
    have hg : (L.getD i dflFB).2 _ _ = some g := hg
    rw [hx] at hg
    have hg : (vs j).ownBlock = some g := hg
    exact ⟨(World.ownsRow.lt ho g hg).2, .inr ⟨j, hE, by show (L.getD j dflFB).2 _ _ = _; rw [hj]; exact hg⟩⟩⟩
end
end Go.Proofs.Ytigofjamednfpaa
namespace Go.Proofs.Ytigofjamednfpaa.Re
open Go.RowKit AM
theorem lastI_app (A : List RV) (x : RV) (p q : Int) : ∀ k, k ≤ A.length → lastI (A ++ [x]) p q k = lastI A p q k := by
  intro k
  induction k with
  | zero => intro _; rfl
  | succ k ih =>
    intro hk
    unfold lastI
    rw [List.getElem?_append_left (by omega), ih (by omega)]
theorem lastI_x (A : List RV) (x : RV) (p q : Int) : lastI (A ++ [x]) p q (A ++ [x]).length = if hasR x p q then A.length else lastI A p q A.length := by
  rw [List.length_append, List.length_singleton]
  cases h : hasR x p q
  · rw [lastI_f _ p q A.length (by simp) (by simpa using h), lastI_app _ _ _ _ _ (Nat.le_refl _)]; rfl
  · rw [lastI_t _ p q A.length (by simp) (by simpa using h)]; rfl
theorem isOf_heap {α : Type} {c : α → List Value} {n : Nat} {w : World} {g : Nat} {cs : Array Value} {t : TypeId} {x : α} (h : w.heap[g]? = some (.cells cs t)) (hx : cs = (c x).toArray) : IsOf c n w (some ⟨g, 0, none⟩) 1 [x] := by
  subst hx
  refine ⟨rfl, fun _ => ⟨g, 0, rfl, (Array.getElem?_eq_some_iff.1 h).1, fun k hk j v hv => ?_⟩⟩
  obtain rfl : k = 0 := by simp at hk; exact hk
  simp at hv
  simp [World.cell?, h, hv]
/-- The rule at an address, one more appended. -/
theorem rule_x (A : List RV) (x : RV) (p q : Int) (h0 : 0 < A.length) : ruleAt (A ++ [x]) (lastI (A ++ [x]) p q (A ++ [x]).length) = if hasR x p q then x else ruleAt A (lastI A p q A.length) := by
  rw [lastI_x]
  have hlt := lastI_lt A p q A.length h0
  cases hasR x p q
  · unfold ruleAt
    simp only [Bool.false_eq_true, if_false]
    rw [List.getD_eq_getElem?_getD, List.getD_eq_getElem?_getD, List.getElem?_append_left hlt]
  · unfold ruleAt
    simp
theorem gcE_len {r : R4} {L : List RV} (h : gcE r L = 0) : 0 < L.length := (rck_zero.1 (gcE_zero.1 h).2).1
theorem ovr_x {f : RV → W64} {r : R4} {L : List RV} {x : RV} (h : gcE r L = 0) (hx : gcE r (L ++ [x]) = 0) {b : Nat} (hb : b < 64) :
    (ovr f r (L ++ [x])).getLsbD b = true ↔ ∀ p q, has4 r p q = true → (f (if hasR x p q then x else ruleAt L (lastI L p q L.length))).getLsbD b = true := by
  rw [ovr_iff hx hb]
  constructor
  · intro hh p q hp
    have := hh p q hp
    rwa [rule_x L x p q (gcE_len h)] at this
  · intro hh p q hp
    rw [rule_x L x p q (gcE_len h)]
    exact hh p q hp
theorem ovr_apart {f : RV → W64} {r : R4} {L : List RV} {x : RV} (h : gcE r L = 0) (hx : gcE r (L ++ [x]) = 0) (ha : x.c1 > r.c2 ∨ r.c1 > x.c2 ∨ x.r1 > r.r2 ∨ r.r1 > x.r2) : ovr f r (L ++ [x]) = ovr f r L := by
  apply BitVec.eq_of_getLsbD_eq
  intro i hi
  rw [Bool.eq_iff_iff, ovr_x h hx hi, ovr_iff h hi]
  have hno : ∀ p q, has4 r p q = true → hasR x p q = false := fun p q hp => by
    rw [← Bool.not_eq_true]
    intro hh
    have h2 : has4 (rr4 x) p q = true := hh
    rw [has4_iff] at hp h2
    unfold rr4 at h2
    dsimp only at h2
    omega
  constructor
  · intro hh p q hp
    have := hh p q hp
    rwa [hno p q hp] at this
  · intro hh p q hp
    rw [hno p q hp]
    exact hh p q hp
theorem ovr_whole {f : RV → W64} {r : R4} {L : List RV} {x : RV} (h : gcE r L = 0) (hx : gcE r (L ++ [x]) = 0) (h1 : x.c1 ≤ r.c1) (h2 : r.c2 ≤ x.c2) (h3 : x.r1 ≤ r.r1) (h4 : r.r2 ≤ x.r2) : ovr f r (L ++ [x]) = f x := by
  apply BitVec.eq_of_getLsbD_eq
  intro i hi
  rw [Bool.eq_iff_iff, ovr_x h hx hi]
  have hall : ∀ p q, has4 r p q = true → hasR x p q = true := fun p q hp => by
    show has4 (rr4 x) p q = true
    rw [has4_iff] at hp ⊢
    unfold rr4
    dsimp only
    omega
  constructor
  · intro hh
    have hp := ck_has (gcE_zero.1 h).1
    have := hh _ _ hp
    rwa [hall _ _ hp] at this
  · intro hh p q hp
    rw [hall p q hp]
    exact hh
theorem ovr_part {f : RV → W64} {r : R4} {L : List RV} {x : RV} (h : gcE r L = 0) (hx : gcE r (L ++ [x]) = 0) (ha : ¬ (x.c1 > r.c2 ∨ r.c1 > x.c2 ∨ x.r1 > r.r2 ∨ r.r1 > x.r2)) : ovr f r (L ++ [x]) &&& ~~~(f x) = 0#64 := by
  have hxk : (rr4 x).ck = true := by
    have := okRule_ck ((rck_zero.1 (gcE_zero.1 hx).2).2.2.2 L.length (by simp))
    unfold ruleAt at this
    simpa using this
  have hrk := (gcE_zero.1 h).1
  apply BitVec.eq_of_getLsbD_eq
  intro i hi
  simp only [BitVec.getLsbD_and, BitVec.getLsbD_not, hi, decide_true, Bool.true_and, BitVec.getLsbD_zero]
  cases hb : (ovr f r (L ++ [x])).getLsbD i
  · rfl
  · have hh := (ovr_x h hx hi).1 hb
    unfold R4.ck at hxk hrk
    rw [ckB_iff] at hxk hrk
    unfold rr4 at hxk
    dsimp only at hxk
    have hp : has4 r (max r.c1 x.c1) (max r.r1 x.r1) = true := by rw [has4_iff]; omega
    have hq : hasR x (max r.c1 x.c1) (max r.r1 x.r1) = true := by
      show has4 (rr4 x) _ _ = true
      rw [has4_iff]; unfold rr4; dsimp only; omega
    have := hh _ _ hp
    rw [hq] at this
    simp only [if_true] at this
    rw [this]; rfl
end Go.Proofs.Ytigofjamednfpaa.Re
