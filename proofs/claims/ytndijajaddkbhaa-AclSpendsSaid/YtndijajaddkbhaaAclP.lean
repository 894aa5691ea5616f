/- The rules that Plain keeps: mathematics. -/
import Derived.Test.YtndijajaddkbhaaAclE
namespace Go.Proofs.Ytndijajaddkbhaa.Re
open Go.RowKit AM
def coversR (r : RV) (M : List RV) : Prop := ∀ p q, hasR r p q = true → ∃ x ∈ M, hasR x p q = true
noncomputable def spentB (r : RV) (M : List RV) : Bool := @decide (coversR r M) (Classical.propDecidable _)
theorem spentB_t {r : RV} {M : List RV} : spentB r M = true ↔ coversR r M := by unfold spentB; exact @decide_eq_true_iff _ (Classical.propDecidable _)
noncomputable def plainT : List RV → List RV
  | [] => []
  | r :: l => if spentB r l then plainT l else r :: plainT l
theorem plainT_cons (r : RV) (l : List RV) : plainT (r :: l) = if spentB r l then plainT l else r :: plainT l := rfl
noncomputable def plainL : List RV → List RV
  | [] => []
  | r :: l => r :: plainT l
theorem plainT_cover (p q : Int) : ∀ l : List RV, (∃ x ∈ plainT l, hasR x p q = true) ↔ ∃ x ∈ l, hasR x p q = true
  | [] => by simp [plainT]
  | r :: l => by
    have ih := plainT_cover p q l
    unfold plainT
    by_cases h : spentB r l = true
    · rw [if_pos h, ih]
      constructor
      · rintro ⟨x, hx, hh⟩; exact ⟨x, List.mem_cons_of_mem _ hx, hh⟩
      · rintro ⟨x, hx, hh⟩
        rcases List.mem_cons.1 hx with rfl | hx
        · exact spentB_t.1 h p q hh
        · exact ⟨x, hx, hh⟩
    · rw [if_neg h]
      constructor
      · rintro ⟨x, hx, hh⟩
        rcases List.mem_cons.1 hx with rfl | hx
        · exact ⟨x, List.mem_cons_self .., hh⟩
        · obtain ⟨y, hy, hy2⟩ := ih.1 ⟨x, hx, hh⟩
          exact ⟨y, List.mem_cons_of_mem _ hy, hy2⟩
      · rintro ⟨x, hx, hh⟩
        rcases List.mem_cons.1 hx with rfl | hx
        · exact ⟨x, List.mem_cons_self .., hh⟩
        · obtain ⟨y, hy, hy2⟩ := ih.2 ⟨x, hx, hh⟩
          exact ⟨y, List.mem_cons_of_mem _ hy, hy2⟩
theorem spentB_plainT (r : RV) (l : List RV) : spentB r (plainT l) = spentB r l := by
  rw [Bool.eq_iff_iff, spentB_t, spentB_t]
  unfold coversR
  constructor
  · intro h p q hh; exact (plainT_cover p q l).1 (h p q hh)
  · intro h p q hh; exact (plainT_cover p q l).2 (h p q hh)
theorem plainT_twice : ∀ l : List RV, plainT (plainT l) = plainT l
  | [] => rfl
  | r :: l => by
    rw [plainT_cons]
    by_cases h : spentB r l = true
    · rw [if_pos h]; exact plainT_twice l
    · rw [if_neg h, plainT_cons, spentB_plainT, if_neg h, plainT_twice l]
theorem plainL_twice (l : List RV) : plainL (plainL l) = plainL l := by
  cases l with
  | nil => rfl
  | cons r l => simp only [plainL, plainT_twice]
theorem plainT_sub : ∀ l : List RV, (plainT l).Sublist l
  | [] => List.Sublist.slnil
  | r :: l => by
    unfold plainT
    by_cases h : spentB r l = true
    · rw [if_pos h]; exact (plainT_sub l).cons _
    · rw [if_neg h]; exact (plainT_sub l).cons_cons _
theorem plainL_sub (l : List RV) : (plainL l).Sublist l := by
  cases l with
  | nil => exact List.Sublist.slnil
  | cons r l => exact (plainT_sub l).cons_cons _
/-- The last rule that has an address. -/
def lastR (p q : Int) : List RV → Option RV
  | [] => none
  | r :: l => (lastR p q l).or (if hasR r p q then some r else none)
theorem lastR_cons (p q : Int) (r : RV) (l : List RV) : lastR p q (r :: l) = (lastR p q l).or (if hasR r p q then some r else none) := rfl
theorem lastR_some (p q : Int) : ∀ l : List RV, (lastR p q l).isSome = true ↔ ∃ x ∈ l, hasR x p q = true
  | [] => by simp [lastR]
  | r :: l => by
    have ih := lastR_some p q l
    unfold lastR
    cases h : lastR p q l with
    | some y =>
      rw [h] at ih
      obtain ⟨x, hx, hh⟩ := ih.1 rfl
      exact ⟨fun _ => ⟨x, List.mem_cons_of_mem _ hx, hh⟩, fun _ => rfl⟩
    | none =>
      rw [h] at ih
      have hn : ¬ ∃ x ∈ l, hasR x p q = true := fun hc => by have := ih.2 hc; cases this
      rw [Option.none_or]
      constructor
      · intro h1
        by_cases hr : hasR r p q = true
        · exact ⟨r, List.mem_cons_self .., hr⟩
        · rw [if_neg hr] at h1; cases h1
      · rintro ⟨x, hx, hh⟩
        rcases List.mem_cons.1 hx with rfl | hx
        · rw [if_pos hh]; rfl
        · exact absurd ⟨x, hx, hh⟩ hn
theorem lastR_plainT (p q : Int) : ∀ l : List RV, lastR p q (plainT l) = lastR p q l
  | [] => rfl
  | r :: l => by
    have ih := lastR_plainT p q l
    rw [plainT_cons, lastR_cons]
    by_cases h : spentB r l = true
    · rw [if_pos h, ih]
      by_cases hr : hasR r p q = true
      · have := (lastR_some p q l).2 (spentB_t.1 h p q hr)
        cases hl : lastR p q l with
        | some y => rfl
        | none => rw [hl] at this; cases this
      · rw [if_neg hr, Option.or_none]
    · rw [if_neg h, lastR_cons, ih]
theorem lastR_plainL (p q : Int) (l : List RV) : lastR p q (plainL l) = lastR p q l := by
  cases l with
  | nil => rfl
  | cons r l => simp only [plainL, lastR, lastR_plainT]
theorem lastR_app (p q : Int) (x : RV) : ∀ A : List RV, lastR p q (A ++ [x]) = if hasR x p q then some x else lastR p q A
  | [] => by simp [lastR]
  | r :: A => by
    rw [List.cons_append, lastR_cons, lastR_cons, lastR_app p q x A]
    split <;> rfl
theorem rev_ind {C : List RV → Prop} (h0 : C []) (h1 : ∀ A x, C A → C (A ++ [x])) (L : List RV) : C L := by
  have key : ∀ n (L : List RV), L.length = n → C L := by
    intro n
    induction n with
    | zero => intro L h; rw [List.length_eq_zero_iff.1 h]; exact h0
    | succ n ih =>
      intro L h
      have hne : L ≠ [] := by intro e; rw [e] at h; simp at h
      rw [← List.dropLast_concat_getLast hne]
      exact h1 _ _ (ih _ (by rw [List.length_dropLast]; omega))
  exact key _ L rfl
theorem lastI_appk (A : List RV) (x : RV) (p q : Int) : ∀ k, k ≤ A.length → lastI (A ++ [x]) p q k = lastI A p q k := by
  intro k
  induction k with
  | zero => intro _; rfl
  | succ k ih =>
    intro hk
    unfold lastI
    rw [List.getElem?_append_left (by omega), ih (by omega)]
theorem lastI_lastx (A : List RV) (x : RV) (p q : Int) : lastI (A ++ [x]) p q (A ++ [x]).length = if hasR x p q then A.length else lastI A p q A.length := by
  rw [List.length_append, List.length_singleton]
  cases h : hasR x p q
  · rw [lastI_f _ p q A.length (by simp) (by simpa using h), lastI_appk _ _ _ _ _ (Nat.le_refl _)]; rfl
  · rw [lastI_t _ p q A.length (by simp) (by simpa using h)]; rfl
/-- The rule at the last index is the last rule. -/
theorem ruleAt_last (p q : Int) (L : List RV) : ∀ y, lastR p q L = some y → ruleAt L (lastI L p q L.length) = y := by
  refine rev_ind (C := fun L => ∀ y, lastR p q L = some y → ruleAt L (lastI L p q L.length) = y) ?_ ?_ L
  · intro y h; cases h
  · intro A x ih y h
    rw [lastR_app] at h
    rw [lastI_lastx]
    cases hx : hasR x p q
    · rw [hx, if_neg (by decide)] at h
      rw [if_neg (by decide)]
      have h0 : 0 < A.length := by
        cases A with
        | nil => cases h
        | cons r A => simp
      have hlt := lastI_lt A p q A.length h0
      have := ih y h
      unfold ruleAt at this ⊢
      rw [List.getD_eq_getElem?_getD] at this ⊢
      rw [List.getElem?_append_left hlt]; exact this
    · rw [hx, if_pos rfl] at h
      injection h with h
      subst h
      rw [if_pos rfl]
      unfold ruleAt; simp
/-- Plain's rules give each address the rights that it had. -/
theorem atR_plainL {p q : Int} {L : List RV} (ho : okR p q = true) (h : (rck 64 L).2 = 0) (h' : (rck 64 (plainL L)).2 = 0) (hh : ∀ r l, L = r :: l → hasR r p q = true) :
    whE p q L = 0 ∧ whE p q (plainL L) = 0 ∧ atR p q (plainL L) = atR p q L := by
  have e1 := (wh_ok ho h).2
  have e2 := (wh_ok ho h').2
  refine ⟨e1, e2, ?_⟩
  unfold atR
  rw [if_pos e1, if_pos e2]
  have hl := rck_len h
  cases L with
  | nil => simp at hl
  | cons r l =>
    have hs : (lastR p q (r :: l)).isSome = true := (lastR_some p q _).2 ⟨r, List.mem_cons_self .., hh r l rfl⟩
    cases hy : lastR p q (r :: l) with
    | none => rw [hy] at hs; cases hs
    | some y => rw [ruleAt_last p q _ y hy, ruleAt_last p q _ y (by rw [lastR_plainL]; exact hy)]
theorem findZ (n : Nat) : ∀ (L : List RV) (i : Nat), (findBad n L i).2 = 0 ↔ ∀ x ∈ L, okRule n x = true := by
  intro L
  induction L with
  | nil => intro i; exact ⟨fun _ x hx => (by cases hx), fun _ => rfl⟩
  | cons r L ih =>
    intro i
    unfold findBad
    cases h : okRule n r
    · rw [if_neg (by decide)]
      constructor
      · intro h0; unfold badE at h0; dsimp only at h0; split at h0 <;> omega
      · intro h0; have := h0 r (List.mem_cons_self ..); rw [h] at this; cases this
    · rw [if_pos rfl, ih (i + 1)]
      constructor
      · intro h0 x hx
        rcases List.mem_cons.1 hx with rfl | hx
        · exact h
        · exact h0 x hx
      · intro h0 x hx; exact h0 x (List.mem_cons_of_mem _ hx)
theorem rck_sub {r : RV} {l m : List RV} (hs : m.Sublist l) (h : (rck 64 (r :: l)).2 = 0) : (rck 64 (r :: m)).2 = 0 := by
  have hl := rck_len h
  have hml : m.length ≤ l.length := hs.length_le
  rw [List.length_cons] at hl
  unfold rck at h ⊢
  rw [if_neg (by rw [List.length_cons]; omega), if_neg (by rw [List.length_cons]; omega)] at h
  rw [if_neg (by rw [List.length_cons]; omega), if_neg (by rw [List.length_cons]; omega)]
  have e : headSheet (r :: m) = headSheet (r :: l) := rfl
  rw [e]
  split at h
  · rename_i hh
    rw [if_pos hh]
    rw [findZ] at h ⊢
    intro x hx
    rcases List.mem_cons.1 hx with rfl | hx
    · exact h x (List.mem_cons_self ..)
    · exact h x (List.mem_cons_of_mem _ (hs.subset hx))
  · simp at h
theorem rck_plainL {L : List RV} (h : (rck 64 L).2 = 0) : (rck 64 (plainL L)).2 = 0 := by
  cases L with
  | nil => exact h
  | cons r l => exact rck_sub (plainT_sub l) h
theorem rck_head {r : RV} {l : List RV} {p q : Int} (h : (rck 64 (r :: l)).2 = 0) (ho : okR p q = true) : hasR r p q = true := by
  have hl := rck_len h
  unfold rck at h
  rw [if_neg (by omega), if_neg (by omega)] at h
  split at h
  · rename_i hh
    have hh : isSheet r = true := hh
    unfold isSheet at hh
    have := of_decide_eq_true hh
    unfold okR at ho
    have ho := of_decide_eq_true ho
    unfold hasR
    exact rhB_t (by omega)
  · simp at h
/-- The scan: what is left of the short list is a sublist of what is left of the long one. -/
theorem scan_eq {a : RV} {xs ps : List RV} (h : (a :: ps).Sublist (a :: xs)) : ps.Sublist xs := List.cons_sublist_cons.1 h
theorem scan_ne {a b : RV} {xs ps : List RV} (hne : a ≠ b) (h : (b :: ps).Sublist (a :: xs)) : (b :: ps).Sublist xs := by
  cases h with
  | cons _ h => exact h
  | cons_cons _ h => exact absurd rfl hne
theorem plainL_len (L : List RV) : (plainL L).length ≤ L.length := (plainL_sub L).length_le
theorem plainL_pos {L : List RV} (h : 0 < L.length) : 0 < (plainL L).length := by
  cases L with
  | nil => exact h
  | cons r l => simp [plainL]
theorem plainL_head {r : RV} {l : List RV} : (plainL (r :: l))[0]? = some r := rfl
end Go.Proofs.Ytndijajaddkbhaa.Re
