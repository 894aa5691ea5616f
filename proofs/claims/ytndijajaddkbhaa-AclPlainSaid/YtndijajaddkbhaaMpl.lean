/- Merged: AclP AclS AclQ RowCap AclT AclU. -/
import Derived.Test.YtndijajaddkbhaaAclE
import Derived.Test.YtndijajaddkbhaaMpt
import Derived.Test.YtndijajaddkbhaaMro
import Derived.Deep.CutRange
import Derived.Test.YtndijajaddkbhaaMseq
/- The rules that Plain keeps: mathematics. -/
namespace Go.Proofs.Ytndijajaddkbhaa.Re
open Go.RowKit AM
def coversR (r : RV) (M : List RV) : Prop := ∀ p q, hasR r p q = true → ∃ x ∈ M, hasR x p q = true
noncomputable def spentB (r : RV) (M : List RV) : Bool := @decide (coversR r M) (Classical.propDecidable _)
theorem spentB_t {r : RV} {M : List RV} : spentB r M = true ↔ coversR r M := by unfold spentB; exact @decide_eq_true_iff _ (Classical.propDecidable _)
noncomputable def plainT : List RV → List RV
  | [] => []
  | r :: l => if spentB r l then plainT l else r :: plainT l
theorem plainT_cons (r : RV) (l : List RV) : plainT (r :: l) = if spentB r l then plainT l else r :: plainT l := rfl
noncomputable def plainL : List RV → List RV
  | [] => []
  | r :: l => r :: plainT l
theorem plainT_cover (p q : Int) : ∀ l : List RV, (∃ x ∈ plainT l, hasR x p q = true) ↔ ∃ x ∈ l, hasR x p q = true
  | [] => by simp [plainT]
  | r :: l => by
    have ih := plainT_cover p q l
    unfold plainT
    by_cases h : spentB r l = true
    · rw [if_pos h, ih]
      constructor
      · rintro ⟨x, hx, hh⟩; exact ⟨x, List.mem_cons_of_mem _ hx, hh⟩
      · rintro ⟨x, hx, hh⟩
        rcases List.mem_cons.1 hx with rfl | hx
        · exact spentB_t.1 h p q hh
        · exact ⟨x, hx, hh⟩
    · rw [if_neg h]
      constructor
      · rintro ⟨x, hx, hh⟩
        rcases List.mem_cons.1 hx with rfl | hx
        · exact ⟨x, List.mem_cons_self .., hh⟩
        · obtain ⟨y, hy, hy2⟩ := ih.1 ⟨x, hx, hh⟩
          exact ⟨y, List.mem_cons_of_mem _ hy, hy2⟩
      · rintro ⟨x, hx, hh⟩
        rcases List.mem_cons.1 hx with rfl | hx
        · exact ⟨x, List.mem_cons_self .., hh⟩
        · obtain ⟨y, hy, hy2⟩ := ih.2 ⟨x, hx, hh⟩
          exact ⟨y, List.mem_cons_of_mem _ hy, hy2⟩
theorem spentB_plainT (r : RV) (l : List RV) : spentB r (plainT l) = spentB r l := by
  rw [Bool.eq_iff_iff, spentB_t, spentB_t]
  unfold coversR
  constructor
  · intro h p q hh; exact (plainT_cover p q l).1 (h p q hh)
  · intro h p q hh; exact (plainT_cover p q l).2 (h p q hh)
theorem plainT_twice : ∀ l : List RV, plainT (plainT l) = plainT l
  | [] => rfl
  | r :: l => by
    rw [plainT_cons]
    by_cases h : spentB r l = true
    · rw [if_pos h]; exact plainT_twice l
    · rw [if_neg h, plainT_cons, spentB_plainT, if_neg h, plainT_twice l]
theorem plainL_twice (l : List RV) : plainL (plainL l) = plainL l := by
  cases l with
  | nil => rfl
  | cons r l => simp only [plainL, plainT_twice]
theorem plainT_sub : ∀ l : List RV, (plainT l).Sublist l
  | [] => List.Sublist.slnil
  | r :: l => by
    unfold plainT
    by_cases h : spentB r l = true
    · rw [if_pos h]; exact (plainT_sub l).cons _
    · rw [if_neg h]; exact (plainT_sub l).cons_cons _
theorem plainL_sub (l : List RV) : (plainL l).Sublist l := by
  cases l with
  | nil => exact List.Sublist.slnil
  | cons r l => exact (plainT_sub l).cons_cons _
/-- The last rule that has an address. -/
def lastR (p q : Int) : List RV → Option RV
  | [] => none
  | r :: l => (lastR p q l).or (if hasR r p q then some r else none)
theorem lastR_cons (p q : Int) (r : RV) (l : List RV) : lastR p q (r :: l) = (lastR p q l).or (if hasR r p q then some r else none) := rfl
theorem lastR_some (p q : Int) : ∀ l : List RV, (lastR p q l).isSome = true ↔ ∃ x ∈ l, hasR x p q = true
  | [] => by simp [lastR]
  | r :: l => by
    have ih := lastR_some p q l
    unfold lastR
    cases h : lastR p q l with
    | some y =>
      rw [h] at ih
      obtain ⟨x, hx, hh⟩ := ih.1 rfl
      exact ⟨fun _ => ⟨x, List.mem_cons_of_mem _ hx, hh⟩, fun _ => rfl⟩
    | none =>
      rw [h] at ih
      have hn : ¬ ∃ x ∈ l, hasR x p q = true := fun hc => by have := ih.2 hc; cases this
      rw [Option.none_or]
      constructor
      · intro h1
        by_cases hr : hasR r p q = true
        · exact ⟨r, List.mem_cons_self .., hr⟩
        · rw [if_neg hr] at h1; cases h1
      · rintro ⟨x, hx, hh⟩
        rcases List.mem_cons.1 hx with rfl | hx
        · rw [if_pos hh]; rfl
        · exact absurd ⟨x, hx, hh⟩ hn
theorem lastR_plainT (p q : Int) : ∀ l : List RV, lastR p q (plainT l) = lastR p q l
  | [] => rfl
  | r :: l => by
    have ih := lastR_plainT p q l
    rw [plainT_cons, lastR_cons]
    by_cases h : spentB r l = true
    · rw [if_pos h, ih]
      by_cases hr : hasR r p q = true
      · have := (lastR_some p q l).2 (spentB_t.1 h p q hr)
        cases hl : lastR p q l with
        | some y => rfl
        | none => rw [hl] at this; cases this
      · rw [if_neg hr, Option.or_none]
    · rw [if_neg h, lastR_cons, ih]
theorem lastR_plainL (p q : Int) (l : List RV) : lastR p q (plainL l) = lastR p q l := by
  cases l with
  | nil => rfl
  | cons r l => simp only [plainL, lastR, lastR_plainT]
theorem lastR_app (p q : Int) (x : RV) : ∀ A : List RV, lastR p q (A ++ [x]) = if hasR x p q then some x else lastR p q A
  | [] => by simp [lastR]
  | r :: A => by
    rw [List.cons_append, lastR_cons, lastR_cons, lastR_app p q x A]
    split <;> rfl
theorem rev_ind {C : List RV → Prop} (h0 : C []) (h1 : ∀ A x, C A → C (A ++ [x])) (L : List RV) : C L := by
  have key : ∀ n (L : List RV), L.length = n → C L := by
    intro n
    induction n with
    | zero => intro L h; rw [List.length_eq_zero_iff.1 h]; exact h0
    | succ n ih =>
      intro L h
      have hne : L ≠ [] := by intro e; rw [e] at h; simp at h
      rw [← List.dropLast_concat_getLast hne]
      exact h1 _ _ (ih _ (by rw [List.length_dropLast]; omega))
  exact key _ L rfl
theorem lastI_appk (A : List RV) (x : RV) (p q : Int) : ∀ k, k ≤ A.length → lastI (A ++ [x]) p q k = lastI A p q k := by
  intro k
  induction k with
  | zero => intro _; rfl
  | succ k ih =>
    intro hk
    unfold lastI
    rw [List.getElem?_append_left (by omega), ih (by omega)]
theorem lastI_lastx (A : List RV) (x : RV) (p q : Int) : lastI (A ++ [x]) p q (A ++ [x]).length = if hasR x p q then A.length else lastI A p q A.length := by
  rw [List.length_append, List.length_singleton]
  cases h : hasR x p q
  · rw [lastI_f _ p q A.length (by simp) (by simpa using h), lastI_appk _ _ _ _ _ (Nat.le_refl _)]; rfl
  · rw [lastI_t _ p q A.length (by simp) (by simpa using h)]; rfl
/-- The rule at the last index is the last rule. -/
theorem ruleAt_last (p q : Int) (L : List RV) : ∀ y, lastR p q L = some y → ruleAt L (lastI L p q L.length) = y := by
  refine rev_ind (C := fun L => ∀ y, lastR p q L = some y → ruleAt L (lastI L p q L.length) = y) ?_ ?_ L
  · intro y h; cases h
  · intro A x ih y h
    rw [lastR_app] at h
    rw [lastI_lastx]
    cases hx : hasR x p q
    · rw [hx, if_neg (by decide)] at h
      rw [if_neg (by decide)]
      have h0 : 0 < A.length := by
        cases A with
        | nil => cases h
        | cons r A => simp
      have hlt := lastI_lt A p q A.length h0
      have := ih y h
      unfold ruleAt at this ⊢
      rw [List.getD_eq_getElem?_getD] at this ⊢
      rw [List.getElem?_append_left hlt]; exact this
    · rw [hx, if_pos rfl] at h
      injection h with h
      subst h
      rw [if_pos rfl]
      unfold ruleAt; simp
/-- Plain's rules give each address the rights that it had. -/
theorem atR_plainL {p q : Int} {L : List RV} (ho : okR p q = true) (h : (rck 64 L).2 = 0) (h' : (rck 64 (plainL L)).2 = 0) (hh : ∀ r l, L = r :: l → hasR r p q = true) :
    whE p q L = 0 ∧ whE p q (plainL L) = 0 ∧ atR p q (plainL L) = atR p q L := by
  have e1 := (wh_ok ho h).2
  have e2 := (wh_ok ho h').2
  refine ⟨e1, e2, ?_⟩
  unfold atR
  rw [if_pos e1, if_pos e2]
  have hl := rck_len h
  cases L with
  | nil => simp at hl
  | cons r l =>
    have hs : (lastR p q (r :: l)).isSome = true := (lastR_some p q _).2 ⟨r, List.mem_cons_self .., hh r l rfl⟩
    cases hy : lastR p q (r :: l) with
    | none => rw [hy] at hs; cases hs
    | some y => rw [ruleAt_last p q _ y hy, ruleAt_last p q _ y (by rw [lastR_plainL]; exact hy)]
theorem findZ (n : Nat) : ∀ (L : List RV) (i : Nat), (findBad n L i).2 = 0 ↔ ∀ x ∈ L, okRule n x = true := by
  intro L
  induction L with
  | nil => intro i; exact ⟨fun _ x hx => (by cases hx), fun _ => rfl⟩
  | cons r L ih =>
    intro i
    unfold findBad
    cases h : okRule n r
    · rw [if_neg (by decide)]
      constructor
      · intro h0; unfold badE at h0; dsimp only at h0; split at h0 <;> omega
      · intro h0; have := h0 r (List.mem_cons_self ..); rw [h] at this; cases this
    · rw [if_pos rfl, ih (i + 1)]
      constructor
      · intro h0 x hx
        rcases List.mem_cons.1 hx with rfl | hx
        · exact h
        · exact h0 x hx
      · intro h0 x hx; exact h0 x (List.mem_cons_of_mem _ hx)
theorem rck_sub {r : RV} {l m : List RV} (hs : m.Sublist l) (h : (rck 64 (r :: l)).2 = 0) : (rck 64 (r :: m)).2 = 0 := by
  have hl := rck_len h
  have hml : m.length ≤ l.length := hs.length_le
  rw [List.length_cons] at hl
  unfold rck at h ⊢
  rw [if_neg (by rw [List.length_cons]; omega), if_neg (by rw [List.length_cons]; omega)] at h
  rw [if_neg (by rw [List.length_cons]; omega), if_neg (by rw [List.length_cons]; omega)]
  have e : headSheet (r :: m) = headSheet (r :: l) := rfl
  rw [e]
  split at h
  · rename_i hh
    rw [if_pos hh]
    rw [findZ] at h ⊢
    intro x hx
    rcases List.mem_cons.1 hx with rfl | hx
    · exact h x (List.mem_cons_self ..)
    · exact h x (List.mem_cons_of_mem _ (hs.subset hx))
  · simp at h
theorem rck_plainL {L : List RV} (h : (rck 64 L).2 = 0) : (rck 64 (plainL L)).2 = 0 := by
  cases L with
  | nil => exact h
  | cons r l => exact rck_sub (plainT_sub l) h
theorem rck_head {r : RV} {l : List RV} {p q : Int} (h : (rck 64 (r :: l)).2 = 0) (ho : okR p q = true) : hasR r p q = true := by
  have hl := rck_len h
  unfold rck at h
  rw [if_neg (by omega), if_neg (by omega)] at h
  split at h
  · rename_i hh
    have hh : isSheet r = true := hh
    unfold isSheet at hh
    have := of_decide_eq_true hh
    unfold okR at ho
    have ho := of_decide_eq_true ho
    unfold hasR
    exact rhB_t (by omega)
  · simp at h
/-- The scan: what is left of the short list is a sublist of what is left of the long one. -/
theorem scan_eq {a : RV} {xs ps : List RV} (h : (a :: ps).Sublist (a :: xs)) : ps.Sublist xs := List.cons_sublist_cons.1 h
theorem scan_ne {a b : RV} {xs ps : List RV} (hne : a ≠ b) (h : (b :: ps).Sublist (a :: xs)) : (b :: ps).Sublist xs := by
  cases h with
  | cons _ h => exact h
  | cons_cons _ h => exact absurd rfl hne
theorem plainL_len (L : List RV) : (plainL L).length ≤ L.length := (plainL_sub L).length_le
theorem plainL_pos {L : List RV} (h : 0 < L.length) : 0 < (plainL L).length := by
  cases L with
  | nil => exact h
  | cons r l => simp [plainL]
theorem plainL_head {r : RV} {l : List RV} : (plainL (r :: l))[0]? = some r := rfl
end Go.Proofs.Ytndijajaddkbhaa.Re
/- The rules that Plain keeps, rule after rule; what the specification asks of the points: mathematics. -/
namespace Go.Proofs.Ytndijajaddkbhaa.Re
open Go.RowKit AM
/-- What of the rules behind the first is kept, of the first k. -/
noncomputable def ptK (l : List RV) : Nat → List RV
  | 0 => []
  | k + 1 => ptK l k ++ (match l[k]? with | some r => if spentB r (l.drop (k + 1)) = true then [] else [r] | none => [])
noncomputable def plK (L : List RV) : Nat → List RV
  | 0 => []
  | k + 1 => plK L k ++ (match L[k]? with | some r => if k = 0 ∨ spentB r (L.drop (k + 1)) = false then [r] else [] | none => [])
theorem ptK_cons (r : RV) (l : List RV) : ∀ k, ptK (r :: l) (k + 1) = (if spentB r l = true then [] else [r]) ++ ptK l k := by
  intro k
  induction k with
  | zero => simp [ptK]
  | succ k ih => rw [ptK, ih, List.append_assoc]; simp [ptK]
theorem ptK_end : ∀ l : List RV, ptK l l.length = plainT l
  | [] => rfl
  | r :: l => by
    rw [List.length_cons, ptK_cons, ptK_end l, plainT_cons]
    split <;> rfl
theorem plK_cons (r : RV) (l : List RV) : ∀ k, plK (r :: l) (k + 1) = r :: ptK l k := by
  intro k
  induction k with
  | zero => simp [plK, ptK]
  | succ k ih =>
    rw [plK, ih]
    cases h : l[k]? with
    | none => simp [ptK, h]
    | some x =>
      simp only [List.getElem?_cons_succ, h, ptK, List.drop_succ_cons]
      cases hs : spentB x (List.drop (k + 1) l)
      · simp
      · simp
theorem plK_end (L : List RV) : plK L L.length = plainL L := by
  cases L with
  | nil => rfl
  | cons r l => rw [List.length_cons, plK_cons, ptK_end]; rfl
theorem plK_t (L : List RV) (k : Nat) (h : k < L.length) (hs : k = 0 ∨ spentB L[k] (L.drop (k + 1)) = false) : plK L (k + 1) = plK L k ++ [L[k]] := by
  rw [plK, List.getElem?_eq_getElem h]; simp [hs]
theorem plK_f (L : List RV) (k : Nat) (h : k < L.length) (h0 : ¬ k = 0) (hs : spentB L[k] (L.drop (k + 1)) = true) : plK L (k + 1) = plK L k := by
  rw [plK, List.getElem?_eq_getElem h]; simp [hs, h0]
theorem plK_len (L : List RV) : ∀ k, (plK L k).length ≤ k
  | 0 => by simp [plK]
  | k + 1 => by
    have := plK_len L k
    rw [plK, List.length_append]
    split
    · split <;> simp <;> omega
    · simp; omega
/-- The last rule is this one: no later rule has the address. -/
theorem lastI_is (L : List RV) (p q : Int) (i : Nat) (hi : i < L.length) (hh : hasR L[i] p q = true) : ∀ n, i < n → n ≤ L.length →
    (lastI L p q n = i ↔ ∀ j (hj : j < L.length), i < j → j < n → hasR L[j] p q = false) := by
  intro n
  induction n with
  | zero => intro h _; omega
  | succ n ih =>
    intro h1 h2
    by_cases hn : n = i
    · subst hn
      rw [lastI_t L p q n hi hh]
      exact ⟨fun _ j hj h3 h4 => by omega, fun _ => rfl⟩
    · have ih' := ih (by omega) (by omega)
      cases hx : hasR (L[n]'(by omega)) p q
      · rw [lastI_f L p q n (by omega) hx, ih']
        constructor
        · intro h j hj h3 h4
          by_cases hjn : j = n
          · subst hjn; exact hx
          · exact h j hj h3 (by omega)
        · intro h j hj h3 h4; exact h j hj h3 (by omega)
      · rw [lastI_t L p q n (by omega) hx]
        constructor
        · intro e; omega
        · intro h
          have := h n (by omega) (by omega) (by omega)
          rw [hx] at this; cases this
theorem lastI_drop (L : List RV) (p q : Int) (i : Nat) (hi : i < L.length) (hh : hasR L[i] p q = true) :
    lastI L p q L.length = i ↔ ¬ ∃ x ∈ L.drop (i + 1), hasR x p q = true := by
  rw [lastI_is L p q i hi hh L.length hi (Nat.le_refl _)]
  constructor
  · rintro h ⟨x, hx, hxx⟩
    obtain ⟨j, hj, rfl⟩ := List.getElem_of_mem hx
    rw [List.length_drop] at hj
    rw [List.getElem_drop] at hxx
    have := h (i + 1 + j) (by omega) (by omega) (by omega)
    rw [this] at hxx; cases hxx
  · intro h j hj h1 h2
    cases hc : hasR L[j] p q with
    | false => rfl
    | true =>
      refine absurd ⟨L[j], ?_, hc⟩ h
      rw [List.mem_iff_getElem]
      exact ⟨j - (i + 1), by rw [List.length_drop]; omega, by rw [List.getElem_drop]; congr 1; omega⟩
/-- As the specification asks it: no point of the rule's range has it as its last rule. -/
def spP (L : List RV) (i : Nat) (l : List (Int × Int)) : Bool := l.all fun x => !(lastI L x.1 x.2 L.length == i)
theorem spP_snoc (L : List RV) (i : Nat) (l : List (Int × Int)) (x : Int × Int) : spP L i (l ++ [x]) = (spP L i l && !(lastI L x.1 x.2 L.length == i)) := by unfold spP; simp
theorem spP_spent (L : List RV) (i : Nat) (hi : i < L.length) : spP L i (ptsL (rr4 L[i]) L) = spentB L[i] (L.drop (i + 1)) := by
  rw [Bool.eq_iff_iff, spentB_t]
  unfold spP coversR
  rw [List.all_eq_true]
  constructor
  · intro h p q hh
    obtain ⟨x, hx, he⟩ := pts_last (r := rr4 L[i]) (L := L) (p := p) (q := q) hh
    have := h x hx
    rw [he] at this
    rw [Bool.not_eq_true', beq_eq_false_iff_ne] at this
    exact Classical.not_not.1 fun hc => this ((lastI_drop L p q i hi hh).2 hc)
  · intro h x hx
    have hh : hasR L[i] x.1 x.2 = true := pts_in hx
    rw [Bool.not_eq_true', beq_eq_false_iff_ne]
    intro hc
    exact (lastI_drop L x.1 x.2 i hi hh).1 hc (h _ _ hh)
/-- As the program asks it: the later ranges cover it. -/
theorem cov_spent (r : RV) (M : List RV) (hr : (rr4 r).ck = true) (hM : ∀ x ∈ M, (rr4 x).ck = true) : covB (rr4 r) (M.map rr4) = spentB r M := by
  have hM' : ∀ b ∈ M.map rr4, b.ck = true := by
    intro b hb
    obtain ⟨x, hx, rfl⟩ := List.mem_map.1 hb
    exact hM x hx
  have hall : (M.map rr4).all R4.ck = true := List.all_eq_true.2 hM'
  rw [(cov_t (r := rr4 r) (l := M.map rr4) (by rw [hr, hall]; rfl)).1, Bool.eq_iff_iff, left_nil hr hM', spentB_t]
  unfold coversR
  constructor
  · intro h p q hh
    obtain ⟨y, hy, hyy⟩ := inL_iff.1 (h p q hh)
    obtain ⟨x, hx, rfl⟩ := List.mem_map.1 hy
    exact ⟨x, hx, hyy⟩
  · intro h p q hh
    obtain ⟨x, hx, hxx⟩ := h p q hh
    exact inL_iff.2 ⟨rr4 x, List.mem_map.2 ⟨x, hx, rfl⟩, hxx⟩
end Go.Proofs.Ytndijajaddkbhaa.Re
/- Contract of spent. -/
namespace Go.Proofs.Ytndijajaddkbhaa.Re
open Go.RowKit AM
theorem map_snoc (L : List RV) (k : Nat) (h : k < L.length) : (L.take (k + 1)).map rr4 = (L.take k).map rr4 ++ [rr4 L[k]] := by
  rw [List.take_add_one, List.getElem?_eq_getElem h, Option.toList_some, List.map_append]; rfl
theorem isOf_new1 {α : Type} {c : α → List Value} {n : Nat} (w : World) (A : Obj) (cs : Array Value) (t : TypeId) (x : α) (h : cs = (c x).toArray) : IsOf c n ((w.alloc A).alloc (.cells cs t)) (some ⟨w.heap.size + 1, 0, none⟩) 1 [x] := by
  have := isOf_new (n := n) (w.alloc A) cs t x h
  rw [World.size_alloc] at this
  exact this
set_option maxRecDepth 100000 in
set_option maxHeartbeats 3200000 in
theorem spent_any (r : RV) (a : Option Addr) (len cap : Nat) (L : List RV) (hl : len ≤ 64) (w : World) (hL : IsL w a len L) :
    Calls Try.prog 57 #[.agg (cells7 r).toArray, .slice a len cap] w fun e w' => e = .returned (.bool (covB (rr4 r) (L.map rr4))) ∧ Below w.heap.size w w' := by
  obtain ⟨y1, y2, y3, y4, y5, y6, y7⟩ := r
  have HL0 := Lib.hid hL
  have HLL := Lib.hid hL.1
  have HB0 := Lib.hid (below_alloc w (.cells #[.int .i64 y1, .int .i64 y2, .int .i64 y3, .int .i64 y4, .int .u64 (y5.toNat : Int), .int .u64 (y6.toNat : Int), .int .u64 (y7.toNat : Int)] 35))
  have HX0 := Lib.hid (Box7.start w ⟨y1, y2, y3, y4, y5, y6, y7⟩ 35)
  have HLz := Lib.hid (hL.later HB0.out)
  clear hL
  unfold cells7 at HX0 ⊢
  dsimp only at HX0 ⊢
  have HC : Hid (∀ (W : World) (va : Option Addr) (vc : Nat), IsR W va len (L.map rr4) → Calls Try.prog 111 #[.agg #[.int .i64 y1, .int .i64 y2, .int .i64 y3, .int .i64 y4], .slice va len vc] W fun e w' => e = .returned (.tuple #[.bool (covB ⟨y1, y2, y3, y4⟩ (L.map rr4)), .int .i64 (covE ⟨y1, y2, y3, y4⟩ (L.map rr4))]) ∧ Below W.heap.size W w') := fun W va vc h => covers_any y1 y2 y3 y4 va len vc (L.map rr4) (by omega) W h
  have e1 : covB (rr4 ⟨y1, y2, y3, y4, y5, y6, y7⟩) (L.map rr4) = covB ⟨y1, y2, y3, y4⟩ (L.map rr4) := rfl
  rw [e1]
  clear e1
  generalize covB ⟨y1, y2, y3, y4⟩ (L.map rr4) = z at *
  generalize covE ⟨y1, y2, y3, y4⟩ (L.map rr4) = ez at *
  go_enter Try.func57, Try.ntmps57
  go_wp2_with fail
  generalize w.alloc (.cells #[.int .i64 y1, .int .i64 y2, .int .i64 y3, .int .i64 y4, .int .u64 (y5.toNat : Int), .int .u64 (y6.toNat : Int), .int .u64 (y7.toNat : Int)] 35) = wz at *
  go_loopw [5, 12] (fun v i wr => ∃ k : Nat, k ≤ len ∧ i = .int .i64 k ∧ OwnOf 30 cells4 4 wz.heap.size wr v ((L.take k).map rr4) ∧ Below wz.heap.size wz wr) (fun _ i _ => len - (intOf i).toNat)
  case atStart => exact ⟨0, Nat.zero_le _, rfl, OwnOf.nil _ _ _ _ _, Below.refl _ _⟩
  case round =>
    obtain ⟨k, hk, rfl, hv, hB⟩ := hrel
    obtain ⟨va, vc, rfl, _⟩ := hv.isOf cells4_len
    have hlk : ((L.take k).map rr4).length = k := by rw [List.length_map, List.length_take]; have := HLL.out; omega
    rw [hlk] at hv ⊢
    have HV := Lib.hid hv
    have HB := Lib.hid hB
    clear hv hB
    by_cases hlt : k < len
    · obtain ⟨bb, off, rfl, hrr⟩ := (HLz.out.later HB.out).2 (by omega)
      have hkl : k < L.length := by rw [HLL.out]; exact hlt
      obtain ⟨c1, c2, c3, c4, c5, c6, c7⟩ := RowOf.seven hrr k hkl
      have HS := Lib.hid (map_snoc L k hkl)
      have HLT := Lib.hid hlk
      clear hlk
      clear hrr
      generalize L[k] = r at *
      obtain ⟨x1, x2, x3, x4, x5, x6, x7⟩ := r
      dsimp only at *
      have HV1 := Lib.hid ((HV.out.alloc (.cells #[.int .i64 x1, .int .i64 x2, .int .i64 x3, .int .i64 x4, .int .u64 (x5.toNat : Int), .int .u64 (x6.toNat : Int), .int .u64 (x7.toNat : Int)] 35)).alloc (.cells #[.int .i64 x1, .int .i64 x2, .int .i64 x3, .int .i64 x4] 30))
      have HI1 := Lib.hid (isOf_new1 (c := cells4) (n := 4) wr (.cells #[.int .i64 x1, .int .i64 x2, .int .i64 x3, .int .i64 x4, .int .u64 (x5.toNat : Int), .int .u64 (x6.toNat : Int), .int .u64 (x7.toNat : Int)] 35) #[.int .i64 x1, .int .i64 x2, .int .i64 x3, .int .i64 x4] 30 (⟨x1, x2, x3, x4⟩ : R4) rfl)
      have HZ1 : Hid (wz.heap.size ≤ ((wr.alloc (.cells #[.int .i64 x1, .int .i64 x2, .int .i64 x3, .int .i64 x4, .int .u64 (x5.toNat : Int), .int .u64 (x6.toNat : Int), .int .u64 (x7.toNat : Int)] 35)).alloc (.cells #[.int .i64 x1, .int .i64 x2, .int .i64 x3, .int .i64 x4] 30)).heap.size) := by unfold Hid; rw [World.size_alloc, World.size_alloc]; have := HB.out.size; omega
      have HM1 : Hid ((((L.take k).map rr4).length + 1) * 32 ≤ 140737488355328) := by unfold Hid; rw [HLT.out]; omega
      go_wp2_with (at_builtin; refine wpList_appOf rfl (.tmp 16) (.tmp 19) 49 rfl Try.underlying49 _ 32 infoRect4 zero4 (by decide) (by decide) cells4_len cells4_one wz.heap.size (.slice va k vc) ((L.take k).map rr4) rfl HV1.out (some ⟨wr.heap.size + 1, 0, none⟩) 1 1 [⟨x1, x2, x3, x4⟩] rfl HI1.out HM1.out HZ1.out ?_)
      intro v3 w3 ho3 hb3
      have ho4 : OwnOf 30 cells4 4 wz.heap.size w3 v3 ((L.take (k + 1)).map rr4) := by rw [HS.out, List.map_take]; exact ho3
      have HO3 := Lib.hid ho4
      have HB3 := Lib.hid (Below.trans ((HB.out.alloc HB.out.size _).alloc (by have := HB.out.size; simp; omega) _) hb3)
      clear ho3 ho4 hb3
      go_wp2_with fail
      go_roundw
      case rel => exact ⟨k + 1, by omega, by go_num, HO3.out, HB3.out⟩
      case measure => simp [intOf]; omega
    · obtain rfl : k = len := by omega
      have HT : Hid (L.take k = L) := List.take_of_length_le (by rw [HLL.out]; exact Nat.le_refl _)
      have hV := HV.out
      rw [HT.out] at hV
      clear hlk
      obtain ⟨va2, vc2, he, hi⟩ := hV.isOf cells4_len
      obtain ⟨rfl, rfl⟩ : va = va2 ∧ vc = vc2 := by injection he with h1 h2 h3; exact ⟨h1, h3⟩
      rw [List.length_map, HLL.out] at hi
      have HI := Lib.hid (isR_of hi)
      obtain ⟨_, d1, d2, d3, d4, d5, d6, d7⟩ := HX0.out.later HB.out
      dsimp only at d1 d2 d3 d4 d5 d6 d7
      clear hV hi he HV d5 d6 d7
      go_wp2_with fail
      refine (HC.out _ va vc HI.out).mono ?_
      rintro e w2 ⟨rfl, hB2⟩
      have HB2 := Lib.hid (Below.next HB0.out (Below.next (HB.out) hB2))
      clear hB2 d1 d2 d3 d4 HI HB HL0 HX0 HLz HB0 HC HT
      go_wp2_with fail
      go_ret
      exact ⟨rfl, HB2.out⟩
end Go.Proofs.Ytndijajaddkbhaa.Re
/- Slices of slices that came in. -/
namespace Go.Proofs.Ytndijajaddkbhaa
open Go Go.RowKit Go.Deep
section
variable {α : Type} {c : α → List Value} {n : Nat} {P : Program} {H : Type} {enc : TypeId × Value → H} {w : World} {base : Nat} {held : Bool}
theorem came_cap {t e : TypeId} {fuel : Nat} {A : Option Addr} {len cap : Nat} {x : DataW H × List MemPlace} (ht : P.underlying t = some (.slice e))
    (h : DataW.trod enc P w base (fun _ => true) held fuel t [.slice A len cap] = some x) : len ≤ cap := by
  rcases open_slice ht h with ⟨hcs, _⟩ | ⟨ad, l, cp, m, k, D, Pl, hcs, _, hl, hm, hmm, hxd, hi⟩
  · simp at hcs
    omega
  · simp at hcs
    omega
theorem IsOf.cut {w : World} {A : Option Addr} {len k cap : Nat} {L : List α} (h : IsOf c n w A len L) (hk : k ≤ len) (hc : len ≤ cap) :
    IsOf c n w (if cap = k then A else A.map (·.add (k * n))) (len - k) (L.drop k) := by
  refine ⟨by rw [List.length_drop, h.1], fun hn => ?_⟩
  obtain ⟨b, off, rfl, hr⟩ := h.2 (by omega)
  rw [if_neg (by omega)]
  exact ⟨b, off + k * n, by simp [Addr.add], hr.drop k⟩
theorem RowOf.take {w : World} {b off : Nat} {L : List α} (h : RowOf c n w b off L) (k : Nat) : RowOf c n w b off (L.take k) :=
  ⟨h.1, fun i hi j u hu => by
    rw [List.getElem_take] at hu
    exact h.2 i (by rw [List.length_take] at hi; omega) j u hu⟩
theorem IsOf.take {w : World} {A : Option Addr} {len k : Nat} {L : List α} (h : IsOf c n w A len L) (hk : k ≤ len) : IsOf c n w A k (L.take k) := by
  refine ⟨by rw [List.length_take, h.1]; omega, fun hn => ?_⟩
  obtain ⟨b, off, rfl, hr⟩ := h.2 (by omega)
  exact ⟨b, off, rfl, hr.take k⟩
end
end Go.Proofs.Ytndijajaddkbhaa
/- The contract of Plain. -/
namespace Go.Proofs.Ytndijajaddkbhaa.Re
open Go.RowKit AM
attribute [local simp] DepA isB rsAt
theorem run_cutL (a : Option Addr) (len cap k : Nat) (h : k < len) (W : World) :
    (Instr.sliceAt 22 (.slice a len cap) (some (.int .i64 ((k : Int) + 1))) none none).run Try.prog W = .ok (.slice (if cap = k + 1 then a else a.map (·.add ((k + 1) * 7))) (len - (k + 1)) (cap - (k + 1))) W := by
  rw [run_sliceAt_slice W 22 _ _ _ _ (by kernel_rfl), run_slice_l W 22 a len cap (by kernel_rfl) .i64 ((k : Int) + 1) (by omega) (by omega)]
  obtain ⟨i0, hi, hz0, hz1, hz2⟩ := info_parts infoRule
  have he : Try.prog.elem 22 = 35 := by kernel_rfl
  rw [he]
  simp [sizeOf, typeInfo, hi, hz1, sliced, show ((k : Int) + 1).toNat = k + 1 by omega]
theorem OwnOf.cap {α : Type} {c : α → List Value} {n : Nat} {e : TypeId} {B : Nat} {w : World} {a : Option Addr} {m cp : Nat} {L : List α} (h : OwnOf e c n B w (.slice a m cp) L) : m ≤ cp := by
  rcases h.2 with ⟨hv, _⟩ | ⟨g, cap, cur, hv, hg, hh, hc, _⟩
  · injection hv with h1 h2 h3; omega
  · injection hv with h1 h2 h3; omega
set_option maxRecDepth 100000 in
set_option maxHeartbeats 6400000 in
theorem pplain_ok (a : Option Addr) (len cap : Nat) (hc : len ≤ cap) (L : List RV) (w : World) (hL : IsL w a len L) (hv : (rck 64 L).2 = 0) :
    Calls Try.prog 14 #[.slice a len cap] w fun e w' => (∃ v, e = .returned (.tuple #[v, .int .i64 0]) ∧ OwnL w.heap.size w' v (plainL L)) ∧ Below w.heap.size w w' := by
  have HL := Lib.hid hL
  have HLL := Lib.hid hL.1
  obtain ⟨hl0, hl64, _, hok⟩ := rck_zero.1 hv
  have hlen : len ≤ 64 := by rw [← hL.1]; exact hl64
  have HCK : Hid (∀ x ∈ L, (rr4 x).ck = true) := by
    intro x hx
    obtain ⟨j, hj, rfl⟩ := List.getElem_of_mem hx
    have := okRule_ck (hok j hj)
    rwa [ruleAt_get hj] at this
  have HV := Lib.hid hv
  clear hL hl0 hl64 hok hv
  go_enter Try.func14, Try.ntmps14
  go_wp2_with fail
  refine (acheck_any 64 a len cap L (by omega) _ HL.out).mono ?_
  rintro e w1 ⟨rfl, hB1⟩
  unfold ckV
  rw [HV.out]
  generalize (rck 64 L).1 = ck1 at *
  have HB1 := Lib.hid hB1
  clear hB1
  go_wp2_with fail
  go_loopw [6, 19] (fun v i wr => ∃ k : Nat, k ≤ len ∧ i = .int .i64 k ∧ OwnL w.heap.size wr v (plK L k) ∧ Below w.heap.size w wr) (fun _ i _ => len - (intOf i).toNat)
  case atStart => exact ⟨0, Nat.zero_le _, rfl, OwnOf.nil _ _ _ _ _, HB1.out⟩
  case round =>
    obtain ⟨k, hk, rfl, hv, hB⟩ := hrel
    obtain ⟨va, vc, rfl, _⟩ := hv.isOf cells7_len
    have HO := Lib.hid hv
    have HB := Lib.hid hB
    clear hv hB
    by_cases hlt : k < len
    · have HLr := Lib.hid (HL.out.later HB.out)
      have HCUT := Lib.hid (fun W (h : IsL W a len L) => IsOf.cut h (k := k + 1) (cap := cap) (by omega) hc)
      have hkl : k < L.length := by rw [HLL.out]; exact hlt
      have HPT := Lib.hid (plK_t L k hkl)
      have HPF := Lib.hid (plK_f L k hkl)
      have hml := plK_len L k
      have HSP : Hid (∀ W A1 c1, IsL W A1 (len - (k + 1)) (L.drop (k + 1)) → Calls Try.prog 57 #[.agg (cells7 L[k]).toArray, .slice A1 (len - (k + 1)) c1] W fun e w' => e = .returned (.bool (spentB L[k] (L.drop (k + 1)))) ∧ Below W.heap.size W w') := by
        intro W A1 c1 h
        have := spent_any L[k] A1 (len - (k + 1)) c1 (L.drop (k + 1)) (by omega) W h
        rwa [cov_spent L[k] (L.drop (k + 1)) (HCK.out _ (List.getElem_mem _)) (fun x hx => HCK.out x (List.mem_of_mem_drop hx))] at this
      have hsl := fun W => run_cutL a len cap k hlt W
      obtain ⟨bb, off, hae, hrr⟩ := HLr.out.2 (by omega)
      obtain ⟨c1, c2, c3, c4, c5, c6, c7⟩ := RowOf.seven hrr k hkl
      have HBX := Lib.hid (Box7.start wr L[k] 35)
      have HBA := Lib.hid (below_alloc wr (.cells (cells7 L[k]).toArray 35))
      have HOA := Lib.hid (HO.out.alloc (.cells (cells7 L[k]).toArray 35))
      have HIA : Hid (IsL (wr.alloc (.cells (cells7 L[k]).toArray 35)) (if cap = k + 1 then a else a.map (·.add ((k + 1) * 7))) (len - (k + 1)) (L.drop (k + 1))) := HCUT.out _ (HLr.out.later HBA.out)
      have HSP2 := Lib.hid (fun W (h : IsL W (if cap = k + 1 then a else a.map (·.add ((k + 1) * 7))) (len - (k + 1)) (L.drop (k + 1))) => HSP.out W _ (cap - (k + 1)) h)
      clear hrr HSP HCUT HLr
      generalize (if cap = k + 1 then a else a.map (·.add ((k + 1) * 7))) = A1 at *
      generalize hm1 : len - (k + 1) = m1 at *
      generalize hc1 : cap - (k + 1) = c1' at *
      have HSP : Hid (∀ W, IsL W A1 m1 (L.drop (k + 1)) → Calls Try.prog 57 #[.agg (cells7 L[k]).toArray, .slice A1 m1 c1'] W fun e w' => e = .returned (.bool (spentB L[k] (L.drop (k + 1)))) ∧ Below W.heap.size W w') := fun W h => HSP2.out W h
      clear HSP2 hm1 hc1
      generalize spentB L[k] (L.drop (k + 1)) = sp at *
      generalize L.drop (k + 1) = D at *
      generalize plK L k = M at *
      generalize L[k] = r at *
      obtain ⟨x1, x2, x3, x4, x5, x6, x7⟩ := r
      subst hae
      unfold cells7 at HBX HBA HOA HSP HIA
      dsimp only at *
      go_wp2_with fail
      clear c1 c2 c3 c4 c5 c6 c7
      change Hid (Box7 (wr.alloc (.cells #[.int .i64 x1, .int .i64 x2, .int .i64 x3, .int .i64 x4, .int .u64 (x5.toNat : Int), .int .u64 (x6.toNat : Int), .int .u64 (x7.toNat : Int)] 35)) wr.heap.size ⟨x1, x2, x3, x4, x5, x6, x7⟩) at HBX
      generalize wr.alloc (.cells #[.int .i64 x1, .int .i64 x2, .int .i64 x3, .int .i64 x4, .int .u64 (x5.toNat : Int), .int .u64 (x6.toNat : Int), .int .u64 (x7.toNat : Int)] 35) = wa at *
      have HBWA := Lib.hid (Below.next HB.out HBA.out)
      by_cases hk0 : k = 0
      · subst hk0
        have HE := Lib.hid (HPT.out (.inl rfl))
        clear HPT HPF hsl
        refine wp_region_seqi (fun X => Below wa.heap.size wa X) (fun W W2 hB h => Below.next h hB) (by kernel_rfl) (by kernel_rfl) (by kernel_rfl) (Below.refl _ _).drew ?_
        simp only [putsL, Act.put, List.setIfInBounds_toArray, List.set_cons_zero, List.set_cons_succ, Nat.zero_add, Nat.reduceAdd]
        refine seqi_run ?_ (fun vs W hD => (by first | rfl | (simp at hD; simp [Region.wanted, yielded, hD]))) (fun vs W hS hD => ?_) ?_
        rotate_left
        · obtain _ := hS; (try simp at hD); (try simp only [hD]); (first | (go_simp; done) | (go_simp; rfl))
        simp only [List.nil_append]
        refine seqi_run ?_ (fun vs W hD => (by first | rfl | (simp at hD; simp [Region.wanted, yielded, hD]))) (fun vs W hS hD => ?_) ?_
        rotate_left
        · obtain _ := hS; (try simp at hD); (try simp only [hD]); (first | (go_simp; done) | (go_simp; rfl))
        simp only [List.nil_append, List.cons_append]
        refine seqi_run ?_ (fun vs W hD => (by first | rfl | (simp at hD; simp [Region.wanted, yielded, hD]))) (fun vs W hS hD => ?_) ?_
        rotate_left
        · obtain _ := hS; (try simp at hD); (try simp only [hD]); (first | (go_simp; done) | (go_simp; rfl))
        simp only [List.nil_append, List.cons_append]
        refine seqi_not (fun vs W hD => (by (try simp at hD); simp [Region.wanted, yielded, hD])) ?_
        simp only [List.nil_append, List.cons_append]
        refine seqi_not (fun vs W hD => (by (try simp at hD); simp [Region.wanted, yielded, hD])) ?_
        simp only [List.nil_append, List.cons_append]
        refine seqi_not (fun vs W hD => (by (try simp at hD); simp [Region.wanted, yielded, hD])) ?_
        simp only [List.nil_append, List.cons_append]
        refine seqi_not (fun vs W hD => (by (try simp at hD); simp [Region.wanted, yielded, hD])) ?_
        simp only [List.nil_append, List.cons_append]
        refine seqi_not (fun vs W hD => (by (try simp at hD); simp [Region.wanted, yielded, hD])) ?_
        simp only [List.nil_append, List.cons_append]
        refine seqi_not (fun vs W hD => (by (try simp at hD); simp [Region.wanted, yielded, hD])) ?_
        simp only [List.nil_append, List.cons_append]
        refine seqi_not (fun vs W hD => (by (try simp at hD); simp [Region.wanted, yielded, hD])) ?_
        simp only [List.nil_append, List.cons_append]
        refine seqi_run ?_ (fun vs W hD => (by first | rfl | (simp at hD; simp [Region.wanted, yielded, hD]))) (fun vs W hS hD => ?_) ?_
        rotate_left
        · obtain _ := hS; (try simp at hD); (try simp only [hD]); (first | (go_simp; done) | (go_simp; rfl))
        simp only [List.nil_append, List.cons_append]
        refine seqi_end fun vs W0 hS hv => ?_
        simp only [AllF, Nat.zero_add, Nat.reduceAdd] at hv
        obtain ⟨h0, h1, h2, h3, h4, h5, h6, h7, h8, h9, h10, _⟩ := hv
        have HOW := Lib.hid (HOA.out.later hS)
        have HBW := Lib.hid (Below.next HBWA.out hS)
        have HXW := Lib.hid (HBX.out.later hS)
        simp only [h0, h1, h2, h3, h4, h5, h6, h7, h8, h9, h10]
        clear h0 h1 h2 h3 h4 h5 h6 h7 h8 h9 h10 hS HSP HIA HBX HOA HBA HBWA
        have HO3 := Lib.hid (HOW.out.alloc (.cells #[.int .i64 x1, .int .i64 x2, .int .i64 x3, .int .i64 x4, .int .u64 (x5.toNat : Int), .int .u64 (x6.toNat : Int), .int .u64 (x7.toNat : Int)] 35))
        have HI3 := Lib.hid (isOf_new (c := cells7) (n := 7) W0 #[.int .i64 x1, .int .i64 x2, .int .i64 x3, .int .i64 x4, .int .u64 (x5.toNat : Int), .int .u64 (x6.toNat : Int), .int .u64 (x7.toNat : Int)] 35 ⟨x1, x2, x3, x4, x5, x6, x7⟩ rfl)
        have HZ3 : Hid (w.heap.size ≤ (W0.alloc (.cells #[.int .i64 x1, .int .i64 x2, .int .i64 x3, .int .i64 x4, .int .u64 (x5.toNat : Int), .int .u64 (x6.toNat : Int), .int .u64 (x7.toNat : Int)] 35)).heap.size) := by unfold Hid; rw [World.size_alloc]; have := HBW.out.size; omega
        have HM3 : Hid ((M.length + 1) * 56 ≤ 140737488355328) := by unfold Hid; omega
        obtain ⟨_, d1, d2, d3, d4, d5, d6, d7⟩ := HXW.out
        dsimp only at d1 d2 d3 d4 d5 d6 d7
        go_wp2_with (at_builtin; refine wpList_appOf rfl (.tmp 35) (.tmp 37) 22 rfl Try.underlying22 _ 56 infoRule zero7 (by decide) (by decide) cells7_len cells7_one w.heap.size (.slice va M.length vc) M rfl HO3.out (some ⟨W0.heap.size, 0, none⟩) 1 1 [⟨x1, x2, x3, x4, x5, x6, x7⟩] rfl HI3.out HM3.out HZ3.out ?_)
        intro v4 w4 ho4 hb4
        have HO4 := Lib.hid ho4
        have HB4 := Lib.hid (Below.trans (HBW.out.alloc HBW.out.size _) hb4)
        clear ho4 hb4
        go_wp2_with fail
        go_roundw
        case rel => exact ⟨1, by omega, by go_num, by rw [HE.out]; exact HO4.out, HB4.out⟩
        case measure => simp [intOf]; omega
      · have hkn : ((k : Int) == 0) = false := by simp; omega
        have hkw : IntKind.i64.wrap ((k : Int) + 1) = (k : Int) + 1 := by rw [IntKind.wrap_i64]; omega
        have HPF' := Lib.hid (HPF.out hk0)
        clear HPF
        refine wp_region_seqi (fun X => Below wa.heap.size wa X) (fun W W2 hB h => Below.next h hB) (by kernel_rfl) (by kernel_rfl) (by kernel_rfl) (Below.refl _ _).drew ?_
        simp only [putsL, Act.put, List.setIfInBounds_toArray, List.set_cons_zero, List.set_cons_succ, Nat.zero_add, Nat.reduceAdd]
        refine seqi_run ?_ (fun vs W hD => (by first | rfl | (simp at hD; simp [Region.wanted, yielded, hD]))) (fun vs W hS hD => ?_) ?_
        rotate_left
        · obtain _ := hS; (try simp at hD); (try simp only [hD]); (first | (go_simp; done) | (go_simp; rfl))
        simp only [List.nil_append]
        refine seqi_run ?_ (fun vs W hD => (by first | rfl | (simp at hD; simp [Region.wanted, yielded, hD]))) (fun vs W hS hD => ?_) ?_
        rotate_left
        · obtain _ := hS; (try simp at hD); (try simp only [hD]); (first | (go_simp; done) | (go_simp; rfl))
        simp only [List.nil_append, List.cons_append]
        refine seqi_run ?_ (fun vs W hD => (by first | rfl | (simp at hD; simp [Region.wanted, yielded, hD]))) (fun vs W hS hD => ?_) ?_
        rotate_left
        · obtain _ := hS; (try simp at hD); (try simp only [hD]); (first | (go_simp; done) | (go_simp; rfl))
        simp only [List.nil_append, List.cons_append]
        refine seqi_run ?_ (fun vs W hD => (by first | rfl | (simp at hD; simp [Region.wanted, yielded, hD]))) (fun vs W hS hD => ?_) ?_
        rotate_left
        · obtain ⟨_, d1, d2, d3, d4, d5, d6, d7⟩ := HBX.out.later hS; dsimp only at d1 d2 d3 d4 d5 d6 d7; obtain _ := hS; (try simp at hD); (try simp only [hD]); (first | (go_simp; done) | (go_simp; rfl))
        simp only [List.nil_append, List.cons_append]
        refine seqi_run ?_ (fun vs W hD => (by first | rfl | (simp at hD; simp [Region.wanted, yielded, hD]))) (fun vs W hS hD => ?_) ?_
        rotate_left
        · obtain _ := hS; (try simp at hD); (try simp only [hD]); (first | (go_simp; done) | (go_simp; rfl))
        simp only [List.nil_append, List.cons_append]
        refine seqi_run ?_ (fun vs W hD => (by first | rfl | (simp at hD; simp [Region.wanted, yielded, hD]))) (fun vs W hS hD => ?_) ?_
        rotate_left
        · obtain _ := hS; (try simp at hD); (try simp only [hD]); (first | (go_simp; done) | (go_simp; rfl))
        simp only [List.nil_append, List.cons_append]
        refine seqi_run (.int .i64 ((k : Int) + 1)) (fun vs W hD => (by first | rfl | (simp at hD; simp [Region.wanted, yielded, hD]))) (fun vs W hS hD => ?_) ?_
        · obtain _ := hS; (try simp at hD); (try simp only [hD]); (first | (go_simp; done) | (go_simp; rfl))
        simp only [List.nil_append, List.cons_append]
        refine seqi_run ?_ (fun vs W hD => (by first | rfl | (simp at hD; simp [Region.wanted, yielded, hD]))) (fun vs W hS hD => ?_) ?_
        rotate_left
        · obtain _ := hS; (try simp at hD); (try simp only [hD]); (first | (go_simp; done) | (go_simp; rfl))
        simp only [List.nil_append, List.cons_append]
        refine seqi_call (f := 57) (fun v _ => v = (.bool sp)) (stable_val _) (fun vs => #[.agg #[.int .i64 x1, .int .i64 x2, .int .i64 x3, .int .i64 x4, .int .u64 (x5.toNat : Int), .int .u64 (x6.toNat : Int), .int .u64 (x7.toNat : Int)], .slice A1 m1 c1']) (fun vs W hD => (by first | rfl | (simp at hD; simp [Region.wanted, yielded, hD]))) (fun vs W hS hD => ?_) (fun vs W hS hD => ?_) ?_
        · obtain _ := hS; (try simp at hD); (try simp only [hD]); go_simp; done
        · exact (HSP.out W (HIA.out.later hS)).mono fun e W' ⟨he, hB⟩ => ⟨⟨_, he, rfl⟩, hB⟩
        simp only [List.nil_append, List.cons_append]
        refine seqi_run ?_ (fun vs W hD => (by first | rfl | (simp at hD; simp [Region.wanted, yielded, hD]))) (fun vs W hS hD => ?_) ?_
        rotate_left
        · obtain _ := hS; (try simp at hD); (try simp only [hD]); (first | (go_simp; done) | (go_simp; rfl))
        simp only [List.nil_append, List.cons_append]
        refine seqi_run ?_ (fun vs W hD => (by first | rfl | (simp at hD; simp [Region.wanted, yielded, hD]))) (fun vs W hS hD => ?_) ?_
        rotate_left
        · obtain _ := hS; (try simp at hD); (try simp only [hD]); (first | (go_simp; done) | (go_simp; rfl))
        simp only [List.nil_append, List.cons_append]
        refine seqi_end fun vs W0 hS hv => ?_
        simp only [AllF, Nat.zero_add, Nat.reduceAdd] at hv
        obtain ⟨h0, h1, h2, h3, h4, h5, h6, h7, h8, h9, h10, _⟩ := hv
        have HOW := Lib.hid (HOA.out.later hS)
        have HBW := Lib.hid (Below.next HBWA.out hS)
        have HXW := Lib.hid (HBX.out.later hS)
        simp only [h0, h1, h2, h3, h4, h5, h6, h7, h8, h9, h10]
        clear h0 h1 h2 h3 h4 h5 h6 h7 h8 h9 h10 hS HSP HIA HBX HOA HBA HBWA hsl
        cases hsp : sp
        · have HE := Lib.hid (HPT.out (.inr hsp))
          clear hsp HPT HPF'
          have HO3 := Lib.hid (HOW.out.alloc (.cells #[.int .i64 x1, .int .i64 x2, .int .i64 x3, .int .i64 x4, .int .u64 (x5.toNat : Int), .int .u64 (x6.toNat : Int), .int .u64 (x7.toNat : Int)] 35))
          have HI3 := Lib.hid (isOf_new (c := cells7) (n := 7) W0 #[.int .i64 x1, .int .i64 x2, .int .i64 x3, .int .i64 x4, .int .u64 (x5.toNat : Int), .int .u64 (x6.toNat : Int), .int .u64 (x7.toNat : Int)] 35 ⟨x1, x2, x3, x4, x5, x6, x7⟩ rfl)
          have HZ3 : Hid (w.heap.size ≤ (W0.alloc (.cells #[.int .i64 x1, .int .i64 x2, .int .i64 x3, .int .i64 x4, .int .u64 (x5.toNat : Int), .int .u64 (x6.toNat : Int), .int .u64 (x7.toNat : Int)] 35)).heap.size) := by unfold Hid; rw [World.size_alloc]; have := HBW.out.size; omega
          have HM3 : Hid ((M.length + 1) * 56 ≤ 140737488355328) := by unfold Hid; omega
          obtain ⟨_, d1, d2, d3, d4, d5, d6, d7⟩ := HXW.out
          dsimp only at d1 d2 d3 d4 d5 d6 d7
          go_wp2_with (at_builtin; refine wpList_appOf rfl (.tmp 35) (.tmp 37) 22 rfl Try.underlying22 _ 56 infoRule zero7 (by decide) (by decide) cells7_len cells7_one w.heap.size (.slice va M.length vc) M rfl HO3.out (some ⟨W0.heap.size, 0, none⟩) 1 1 [⟨x1, x2, x3, x4, x5, x6, x7⟩] rfl HI3.out HM3.out HZ3.out ?_)
          intro v4 w4 ho4 hb4
          have HO4 := Lib.hid ho4
          have HB4 := Lib.hid (Below.trans (HBW.out.alloc HBW.out.size _) hb4)
          clear ho4 hb4
          go_wp2_with fail
          go_roundw
          case rel => exact ⟨k + 1, by omega, by go_num, by rw [HE.out]; exact HO4.out, HB4.out⟩
          case measure => simp [intOf]; omega
        · have HE := Lib.hid (HPF'.out hsp)
          clear hsp HPT HPF'
          go_wp2_with fail
          go_roundw
          case rel => exact ⟨k + 1, by omega, by go_num, by rw [HE.out]; exact HOW.out, HBW.out⟩
          case measure => simp [intOf]; omega
    · obtain rfl : k = len := by omega
      have HE : Hid (plK L k = plainL L) := by unfold Hid; rw [← HLL.out]; exact plK_end L
      have hV : OwnL w.heap.size wr (.slice va (plK L k).length vc) (plainL L) := by have := HO.out; rw [HE.out] at this ⊢; exact this
      have HV9 := Lib.hid hV
      clear hV
      generalize plK L k = M at *
      go_wp2_with fail
      go_ret2
      exact ⟨⟨_, rfl, HV9.out⟩, HB.out⟩
theorem pplain_bad (a : Option Addr) (len cap : Nat) (hl : len ≤ 100000) (L : List RV) (w : World) (hL : IsL w a len L) (x : Int) (hx : (rck 64 L).2 = x) (h0 : ¬ x = 0) :
    Calls Try.prog 14 #[.slice a len cap] w fun e w' => e = .returned (.tuple #[.slice none 0 0, .int .i64 x]) ∧ Below w.heap.size w w' := by
  have HL := Lib.hid hL
  have HX := Lib.hid hx
  have h1 : (x == 0) = false := by simpa using h0
  have h2 : (x != 0) = true := by simpa using h0
  clear hL hx
  go_enter Try.func14, Try.ntmps14
  go_wp2_with fail
  refine (acheck_any 64 a len cap L hl _ HL.out).mono ?_
  rintro e w1 ⟨rfl, hB1⟩
  unfold ckV
  rw [HX.out]
  generalize (rck 64 L).1 = ck1 at *
  have HB1 := Lib.hid hB1
  clear hB1
  go_wp2_with fail
  go_ret2
  exact ⟨rfl, HB1.out⟩
end Go.Proofs.Ytndijajaddkbhaa.Re
/- The specification's Plain. -/
namespace Go.Proofs.Ytndijajaddkbhaa.Re
open Go.RowKit AM
theorem spP_all {L : List RV} {i : Nat} {l : List (Int × Int)} {k : Nat} (h : k < l.length) (hb : lastI L l[k].1 l[k].2 L.length = i) : spP L i l = false := by
  unfold spP
  rw [List.all_eq_false]
  exact ⟨l[k], List.getElem_mem h, by rw [hb]; simp⟩
theorem spP_take {L : List RV} {i : Nat} {l : List (Int × Int)} {k : Nat} (h : k < l.length) (hb : ¬ lastI L l[k].1 l[k].2 L.length = i) (ht : spP L i (l.take k) = true) : spP L i (l.take (k + 1)) = true := by
  rw [List.take_succ_eq_append_getElem h, spP_snoc, ht]
  simpa using hb
set_option maxRecDepth 100000 in
set_option maxHeartbeats 6400000 in
theorem sspent_any (i : Nat) (a : Option Addr) (len cap : Nat) (L : List RV) (hi : i < len) (hiL : i < L.length) (hlen : len ≤ 64) (w : World) (hL : IsL w a len L) (hck : ∀ k, k < L.length → (rr4 (ruleAt L k)).ck = true) :
    Calls Try.prog 58 #[.slice a len cap, .int .i64 (i : Int)] w fun e w' => e = .returned (.bool (spentB L[i] (L.drop (i + 1)))) ∧ Below w.heap.size w w' := by
  have HL := Lib.hid hL
  have HLL := Lib.hid hL.1
  have HSP := Lib.hid (spP_spent L i hiL)
  have HCK := Lib.hid hck
  have hr : (rr4 L[i]).ck = true := by have := hck i hiL; rwa [ruleAt_get hiL] at this
  have HPT := Lib.hid (fun W h => points_any L[i].c1 L[i].r1 L[i].c2 L[i].r2 a len cap L hlen W h hck hr)
  obtain ⟨bb, off, rfl, hrr⟩ := hL.2 (by omega)
  obtain ⟨c1, c2, c3, c4, c5, c6, c7⟩ := RowOf.seven hrr i hiL
  have hbl := hrr.1
  clear hrr hL hck hr
  generalize spentB L[i] (L.drop (i + 1)) = sp at *
  change Hid (∀ W, IsL W (some ⟨bb, off, none⟩) len L → Calls Try.prog 65 #[.agg #[.int .i64 L[i].c1, .int .i64 L[i].r1, .int .i64 L[i].c2, .int .i64 L[i].r2], .slice (some ⟨bb, off, none⟩) len cap] W fun e w' => (∃ v, e = .returned v ∧ OwnQ2 W.heap.size w' v (ptsL (rr4 L[i]) L)) ∧ Below W.heap.size W w') at HPT
  generalize ptsL (rr4 L[i]) L = P at *
  generalize L[i] = r at *
  obtain ⟨x1, x2, x3, x4, x5, x6, x7⟩ := r
  dsimp only at *
  go_enter Try.func58, Try.ntmps58
  go_wp2_with fail
  clear c1 c2 c3 c4 c5 c6 c7
  refine (HPT.out _ HL.out).mono ?_
  rintro e w1 ⟨⟨v, rfl, ho⟩, hB1⟩
  obtain ⟨pa, pc, rfl, _⟩ := ho.isOf cells2_len
  have HO := Lib.hid ho
  have HB1 := Lib.hid hB1
  clear ho hB1 HPT
  go_wp2_with fail
  go_loopw [6] (fun c wr => ∃ k : Nat, k ≤ P.length ∧ c = .int .i64 k ∧ Hid (spP L i (P.take k) = true) ∧ Below w1.heap.size w1 wr) (fun c _ => P.length - (intOf c).toNat)
  case atStart => exact ⟨0, Nat.zero_le _, rfl, rfl, Below.refl _ _⟩
  case round =>
    obtain ⟨k, hk, rfl, HT, hB⟩ := hrel
    have HB := Lib.hid hB
    have HLr := Lib.hid (HL.out.later (Below.next HB1.out hB))
    have HOr := Lib.hid (HO.out.later hB)
    clear hB
    have hpl : P.length ≤ 9223372036854775807 := by
      have h1 := World.ownsRow.lt HO.out
      have := HO.out.2
      rcases this with ⟨_, h⟩ | ⟨g, cp, cur, hv, hg, hh, hc, hmax, _⟩
      · omega
      · unfold maxLen at hmax; omega
    by_cases hlt : k < P.length
    · have HA := Lib.hid (fun h => spP_all (L := L) (i := i) hlt h)
      have HN := Lib.hid (fun h => spP_take (L := L) (i := i) hlt h HT.out)
      have HLC := Lib.hid (fun W h => slast_any P[k].1 P[k].2 (some ⟨bb, off, none⟩) len cap L (by omega) W h)
      obtain ⟨g, rfl, hg, d1, d2⟩ := ownQ2_at HOr.out k hlt
      generalize P[k] = x at *
      obtain ⟨p, q⟩ := x
      try dsimp only at *
      generalize lastI L p q L.length = j at *
      go_wp2_with fail
      refine (HLC.out _ HLr.out).mono ?_
      rintro e w2 ⟨rfl, hB2⟩
      have HB2 := Lib.hid (Below.next HB.out hB2)
      clear hB2 d1 d2 HLC
      by_cases hj : j = i
      · have HZ := Lib.hid (HA.out hj)
        subst hj
        clear HA HN
        go_wp2_with fail
        go_ret
        exact ⟨retB (HZ.out.symm.trans HSP.out), Below.next HB1.out HB2.out⟩
      · have HZ := Lib.hid (HN.out hj)
        have hj2 : ((j : Int) == (i : Int)) = false := by simp; omega
        clear HA HN
        go_wp2_with fail
        go_roundw
        case rel => exact ⟨k + 1, by omega, by go_num, HZ.out, HB2.out⟩
        case measure => simp [intOf]; omega
    · obtain rfl : k = P.length := by omega
      have HZ : Hid (spP L i P = true) := by have := HT.out; rwa [List.take_length] at this
      go_wp2_with fail
      go_ret
      exact ⟨retB (HZ.out.symm.trans HSP.out), Below.next HB1.out HB.out⟩
set_option maxRecDepth 100000 in
set_option maxHeartbeats 6400000 in
theorem splain_ok (a : Option Addr) (len cap : Nat) (L : List RV) (w : World) (hL : IsL w a len L) (hv : (rck 64 L).2 = 0) :
    Calls Try.prog 15 #[.slice a len cap] w fun e w' => (∃ v, e = .returned (.tuple #[v, .int .i64 0]) ∧ OwnL w.heap.size w' v (plainL L)) ∧ Below w.heap.size w w' := by
  have HL := Lib.hid hL
  have HLL := Lib.hid hL.1
  obtain ⟨hl0, hl64, _, hok⟩ := rck_zero.1 hv
  have hlen : len ≤ 64 := by rw [← hL.1]; exact hl64
  have HCK : Hid (∀ k, k < L.length → (rr4 (ruleAt L k)).ck = true) := fun k hk => okRule_ck (hok k hk)
  have HV := Lib.hid hv
  clear hL hl0 hl64 hok hv
  go_enter Try.func15, Try.ntmps15
  go_wp2_with fail
  refine (scheck_big 64 a len cap L _ HL.out).mono ?_
  rintro e w1 ⟨rfl, hB1⟩
  unfold ckV
  rw [HV.out]
  generalize (rck 64 L).1 = ck1 at *
  have HB1 := Lib.hid hB1
  clear hB1
  go_wp2_with fail
  go_loopw [6, 7] (fun v i wr => ∃ k : Nat, k ≤ len ∧ i = .int .i64 k ∧ OwnL w.heap.size wr v (plK L k) ∧ Below w.heap.size w wr) (fun _ i _ => len - (intOf i).toNat)
  case atStart => exact ⟨0, Nat.zero_le _, rfl, OwnOf.nil _ _ _ _ _, HB1.out⟩
  case round =>
    obtain ⟨k, hk, rfl, hv, hB⟩ := hrel
    obtain ⟨va, vc, rfl, _⟩ := hv.isOf cells7_len
    have HO := Lib.hid hv
    have HB := Lib.hid hB
    clear hv hB
    by_cases hlt : k < len
    · have HLr := Lib.hid (HL.out.later HB.out)
      have hkl : k < L.length := by rw [HLL.out]; exact hlt
      have HPT := Lib.hid (plK_t L k hkl)
      have HPF := Lib.hid (plK_f L k hkl)
      have hml := plK_len L k
      have HSP := Lib.hid (fun W h => sspent_any k a len cap L hlt hkl hlen W h HCK.out)
      obtain ⟨bb, off, rfl, hrr⟩ := HLr.out.2 (by omega)
      have HKE : Hid (∀ W, Below wr.heap.size wr W → bb < W.heap.size ∧ Seven W bb (off + k * 7) L[k]) := fun W hB => ⟨(hrr.later hB).1, RowOf.seven (hrr.later hB) k hkl⟩
      clear hrr
      generalize spentB L[k] (L.drop (k + 1)) = sp at *
      generalize plK L k = M at *
      generalize L[k] = r at *
      obtain ⟨x1, x2, x3, x4, x5, x6, x7⟩ := r
      try dsimp only at *
      by_cases hk0 : k = 0
      · subst hk0
        have HE := Lib.hid (HPT.out (.inl rfl))
        clear HPT HPF HSP
        obtain ⟨hbl, c1, c2, c3, c4, c5, c6, c7⟩ := HKE.out _ (Below.refl _ _)
        dsimp only at c1 c2 c3 c4 c5 c6 c7
        simp only [Nat.zero_mul, Nat.add_zero] at c1 c2 c3 c4 c5 c6 c7
        have HO3 := Lib.hid (HO.out.alloc (.cells #[.int .i64 x1, .int .i64 x2, .int .i64 x3, .int .i64 x4, .int .u64 (x5.toNat : Int), .int .u64 (x6.toNat : Int), .int .u64 (x7.toNat : Int)] 35))
        have HI3 := Lib.hid (isOf_new (c := cells7) (n := 7) wr #[.int .i64 x1, .int .i64 x2, .int .i64 x3, .int .i64 x4, .int .u64 (x5.toNat : Int), .int .u64 (x6.toNat : Int), .int .u64 (x7.toNat : Int)] 35 ⟨x1, x2, x3, x4, x5, x6, x7⟩ rfl)
        have HZ3 : Hid (w.heap.size ≤ (wr.alloc (.cells #[.int .i64 x1, .int .i64 x2, .int .i64 x3, .int .i64 x4, .int .u64 (x5.toNat : Int), .int .u64 (x6.toNat : Int), .int .u64 (x7.toNat : Int)] 35)).heap.size) := by unfold Hid; rw [World.size_alloc]; have := HB.out.size; omega
        have HM3 : Hid ((M.length + 1) * 56 ≤ 140737488355328) := by unfold Hid; omega
        go_wp2_with (at_builtin; refine wpList_appOf rfl (.tmp 30) (.tmp 35) 22 rfl Try.underlying22 _ 56 infoRule zero7 (by decide) (by decide) cells7_len cells7_one w.heap.size (.slice va M.length vc) M rfl HO3.out (some ⟨wr.heap.size, 0, none⟩) 1 1 [⟨x1, x2, x3, x4, x5, x6, x7⟩] rfl HI3.out HM3.out HZ3.out ?_)
        intro v4 w4 ho4 hb4
        have HO4 := Lib.hid ho4
        have HB4 := Lib.hid (Below.trans (HB.out.alloc HB.out.size _) hb4)
        clear ho4 hb4
        go_wp2_with fail
        go_roundw
        case rel => exact ⟨1, by omega, by go_num, by rw [HE.out]; exact HO4.out, HB4.out⟩
        case measure => simp [intOf]; omega
      · have hkn : ((k : Int) == 0) = false := by simp; omega
        have HPF' := Lib.hid (HPF.out hk0)
        clear HPF
        go_wp2_with fail
        refine (HSP.out _ HLr.out).mono ?_
        rintro e w2 ⟨rfl, hB2⟩
        obtain ⟨hbl, c1, c2, c3, c4, c5, c6, c7⟩ := HKE.out _ hB2
        dsimp only at c1 c2 c3 c4 c5 c6 c7
        have HO2 := Lib.hid (HO.out.later hB2)
        have HB2 := Lib.hid (Below.next HB.out hB2)
        clear hB2 HSP HKE
        cases hsp : sp
        · have HE := Lib.hid (HPT.out (.inr hsp))
          clear hsp HPT HPF'
          have HO3 := Lib.hid (HO2.out.alloc (.cells #[.int .i64 x1, .int .i64 x2, .int .i64 x3, .int .i64 x4, .int .u64 (x5.toNat : Int), .int .u64 (x6.toNat : Int), .int .u64 (x7.toNat : Int)] 35))
          have HI3 := Lib.hid (isOf_new (c := cells7) (n := 7) w2 #[.int .i64 x1, .int .i64 x2, .int .i64 x3, .int .i64 x4, .int .u64 (x5.toNat : Int), .int .u64 (x6.toNat : Int), .int .u64 (x7.toNat : Int)] 35 ⟨x1, x2, x3, x4, x5, x6, x7⟩ rfl)
          have HZ3 : Hid (w.heap.size ≤ (w2.alloc (.cells #[.int .i64 x1, .int .i64 x2, .int .i64 x3, .int .i64 x4, .int .u64 (x5.toNat : Int), .int .u64 (x6.toNat : Int), .int .u64 (x7.toNat : Int)] 35)).heap.size) := by unfold Hid; rw [World.size_alloc]; have := HB2.out.size; omega
          have HM3 : Hid ((M.length + 1) * 56 ≤ 140737488355328) := by unfold Hid; omega
          go_wp2_with (at_builtin; refine wpList_appOf rfl (.tmp 30) (.tmp 35) 22 rfl Try.underlying22 _ 56 infoRule zero7 (by decide) (by decide) cells7_len cells7_one w.heap.size (.slice va M.length vc) M rfl HO3.out (some ⟨w2.heap.size, 0, none⟩) 1 1 [⟨x1, x2, x3, x4, x5, x6, x7⟩] rfl HI3.out HM3.out HZ3.out ?_)
          intro v4 w4 ho4 hb4
          have HO4 := Lib.hid ho4
          have HB4 := Lib.hid (Below.trans (HB2.out.alloc HB2.out.size _) hb4)
          clear ho4 hb4
          go_wp2_with fail
          go_roundw
          case rel => exact ⟨k + 1, by omega, by go_num, by rw [HE.out]; exact HO4.out, HB4.out⟩
          case measure => simp [intOf]; omega
        · have HE := Lib.hid (HPF'.out hsp)
          clear hsp HPT HPF' c1 c2 c3 c4 c5 c6 c7
          go_wp2_with fail
          go_roundw
          case rel => exact ⟨k + 1, by omega, by go_num, by rw [HE.out]; exact HO2.out, HB2.out⟩
          case measure => simp [intOf]; omega
    · obtain rfl : k = len := by omega
      have HE : Hid (plK L k = plainL L) := by unfold Hid; rw [← HLL.out]; exact plK_end L
      have hV : OwnL w.heap.size wr (.slice va (plK L k).length vc) (plainL L) := by have := HO.out; rw [HE.out] at this ⊢; exact this
      have HV9 := Lib.hid hV
      clear hV
      generalize plK L k = M at *
      go_wp2_with fail
      go_ret2
      exact ⟨⟨_, rfl, HV9.out⟩, HB.out⟩
theorem splain_bad (a : Option Addr) (len cap : Nat) (L : List RV) (w : World) (hL : IsL w a len L) (x : Int) (hx : (rck 64 L).2 = x) (h0 : ¬ x = 0) :
    Calls Try.prog 15 #[.slice a len cap] w fun e w' => e = .returned (.tuple #[.slice none 0 0, .int .i64 x]) ∧ Below w.heap.size w w' := by
  have HL := Lib.hid hL
  have HX := Lib.hid hx
  have h1 : (x == 0) = false := by simpa using h0
  have h2 : (x != 0) = true := by simpa using h0
  clear hL hx
  go_enter Try.func15, Try.ntmps15
  go_wp2_with fail
  refine (scheck_big 64 a len cap L _ HL.out).mono ?_
  rintro e w1 ⟨rfl, hB1⟩
  unfold ckV
  rw [HX.out]
  generalize (rck 64 L).1 = ck1 at *
  have HB1 := Lib.hid hB1
  clear hB1
  go_wp2_with fail
  go_ret2
  exact ⟨rfl, HB1.out⟩
end Go.Proofs.Ytndijajaddkbhaa.Re
