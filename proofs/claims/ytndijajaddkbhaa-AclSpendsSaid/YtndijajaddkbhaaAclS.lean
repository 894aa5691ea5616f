/- The rules that Plain keeps, rule after rule; what the specification asks of the points: mathematics. -/
import Derived.Test.YtndijajaddkbhaaAclP
import Derived.Test.YtndijajaddkbhaaPtA
import Derived.Test.YtndijajaddkbhaaRectU
namespace Go.Proofs.Ytndijajaddkbhaa.Re
open Go.RowKit AM
/-- What of the rules behind the first is kept, of the first k. -/
noncomputable def ptK (l : List RV) : Nat → List RV
  | 0 => []
  | k + 1 => ptK l k ++ (match l[k]? with | some r => if spentB r (l.drop (k + 1)) = true then [] else [r] | none => [])
noncomputable def plK (L : List RV) : Nat → List RV
  | 0 => []
  | k + 1 => plK L k ++ (match L[k]? with | some r => if k = 0 ∨ spentB r (L.drop (k + 1)) = false then [r] else [] | none => [])
theorem ptK_cons (r : RV) (l : List RV) : ∀ k, ptK (r :: l) (k + 1) = (if spentB r l = true then [] else [r]) ++ ptK l k := by
  intro k
  induction k with
  | zero => simp [ptK]
  | succ k ih => rw [ptK, ih, List.append_assoc]; simp [ptK]
theorem ptK_end : ∀ l : List RV, ptK l l.length = plainT l
  | [] => rfl
  | r :: l => by
    rw [List.length_cons, ptK_cons, ptK_end l, plainT_cons]
    split <;> rfl
theorem plK_cons (r : RV) (l : List RV) : ∀ k, plK (r :: l) (k + 1) = r :: ptK l k := by
  intro k
  induction k with
  | zero => simp [plK, ptK]
  | succ k ih =>
    rw [plK, ih]
    cases h : l[k]? with
    | none => simp [ptK, h]
    | some x =>
      simp only [List.getElem?_cons_succ, h, ptK, List.drop_succ_cons]
      cases hs : spentB x (List.drop (k + 1) l)
      · simp
      · simp
theorem plK_end (L : List RV) : plK L L.length = plainL L := by
  cases L with
  | nil => rfl
  | cons r l => rw [List.length_cons, plK_cons, ptK_end]; rfl
theorem plK_t (L : List RV) (k : Nat) (h : k < L.length) (hs : k = 0 ∨ spentB L[k] (L.drop (k + 1)) = false) : plK L (k + 1) = plK L k ++ [L[k]] := by
  rw [plK, List.getElem?_eq_getElem h]; simp [hs]
theorem plK_f (L : List RV) (k : Nat) (h : k < L.length) (h0 : ¬ k = 0) (hs : spentB L[k] (L.drop (k + 1)) = true) : plK L (k + 1) = plK L k := by
  rw [plK, List.getElem?_eq_getElem h]; simp [hs, h0]
theorem plK_len (L : List RV) : ∀ k, (plK L k).length ≤ k
  | 0 => by simp [plK]
  | k + 1 => by
    have := plK_len L k
    rw [plK, List.length_append]
    split
    · split <;> simp <;> omega
    · simp; omega
/-- The last rule is this one: no later rule has the address. -/
theorem lastI_is (L : List RV) (p q : Int) (i : Nat) (hi : i < L.length) (hh : hasR L[i] p q = true) : ∀ n, i < n → n ≤ L.length →
    (lastI L p q n = i ↔ ∀ j (hj : j < L.length), i < j → j < n → hasR L[j] p q = false) := by
  intro n
  induction n with
  | zero => intro h _; omega
  | succ n ih =>
    intro h1 h2
    by_cases hn : n = i
    · subst hn
      rw [lastI_t L p q n hi hh]
      exact ⟨fun _ j hj h3 h4 => by omega, fun _ => rfl⟩
    · have ih' := ih (by omega) (by omega)
      cases hx : hasR (L[n]'(by omega)) p q
      · rw [lastI_f L p q n (by omega) hx, ih']
        constructor
        · intro h j hj h3 h4
          by_cases hjn : j = n
          · subst hjn; exact hx
          · exact h j hj h3 (by omega)
        · intro h j hj h3 h4; exact h j hj h3 (by omega)
      · rw [lastI_t L p q n (by omega) hx]
        constructor
        · intro e; omega
        · intro h
          have := h n (by omega) (by omega) (by omega)
          rw [hx] at this; cases this
theorem lastI_drop (L : List RV) (p q : Int) (i : Nat) (hi : i < L.length) (hh : hasR L[i] p q = true) :
    lastI L p q L.length = i ↔ ¬ ∃ x ∈ L.drop (i + 1), hasR x p q = true := by
  rw [lastI_is L p q i hi hh L.length hi (Nat.le_refl _)]
  constructor
  · rintro h ⟨x, hx, hxx⟩
    obtain ⟨j, hj, rfl⟩ := List.getElem_of_mem hx
    rw [List.length_drop] at hj
    rw [List.getElem_drop] at hxx
    have := h (i + 1 + j) (by omega) (by omega) (by omega)
    rw [this] at hxx; cases hxx
  · intro h j hj h1 h2
    cases hc : hasR L[j] p q with
    | false => rfl
    | true =>
      refine absurd ⟨L[j], ?_, hc⟩ h
      rw [List.mem_iff_getElem]
      exact ⟨j - (i + 1), by rw [List.length_drop]; omega, by rw [List.getElem_drop]; congr 1; omega⟩
/-- As the specification asks it: no point of the rule's range has it as its last rule. -/
def spP (L : List RV) (i : Nat) (l : List (Int × Int)) : Bool := l.all fun x => !(lastI L x.1 x.2 L.length == i)
theorem spP_snoc (L : List RV) (i : Nat) (l : List (Int × Int)) (x : Int × Int) : spP L i (l ++ [x]) = (spP L i l && !(lastI L x.1 x.2 L.length == i)) := by unfold spP; simp
theorem spP_spent (L : List RV) (i : Nat) (hi : i < L.length) : spP L i (ptsL (rr4 L[i]) L) = spentB L[i] (L.drop (i + 1)) := by
  rw [Bool.eq_iff_iff, spentB_t]
  unfold spP coversR
  rw [List.all_eq_true]
  constructor
  · intro h p q hh
    obtain ⟨x, hx, he⟩ := pts_last (r := rr4 L[i]) (L := L) (p := p) (q := q) hh
    have := h x hx
    rw [he] at this
    rw [Bool.not_eq_true', beq_eq_false_iff_ne] at this
    exact Classical.not_not.1 fun hc => this ((lastI_drop L p q i hi hh).2 hc)
  · intro h x hx
    have hh : hasR L[i] x.1 x.2 = true := pts_in hx
    rw [Bool.not_eq_true', beq_eq_false_iff_ne]
    intro hc
    exact (lastI_drop L x.1 x.2 i hi hh).1 hc (h _ _ hh)
/-- As the program asks it: the later ranges cover it. -/
theorem cov_spent (r : RV) (M : List RV) (hr : (rr4 r).ck = true) (hM : ∀ x ∈ M, (rr4 x).ck = true) : covB (rr4 r) (M.map rr4) = spentB r M := by
  have hM' : ∀ b ∈ M.map rr4, b.ck = true := by
    intro b hb
    obtain ⟨x, hx, rfl⟩ := List.mem_map.1 hb
    exact hM x hx
  have hall : (M.map rr4).all R4.ck = true := List.all_eq_true.2 hM'
  rw [(cov_t (r := rr4 r) (l := M.map rr4) (by rw [hr, hall]; rfl)).1, Bool.eq_iff_iff, left_nil hr hM', spentB_t]
  unfold coversR
  constructor
  · intro h p q hh
    obtain ⟨y, hy, hyy⟩ := inL_iff.1 (h p q hh)
    obtain ⟨x, hx, rfl⟩ := List.mem_map.1 hy
    exact ⟨x, hx, hyy⟩
  · intro h p q hh
    obtain ⟨x, hx, hxx⟩ := h p q hh
    exact inL_iff.2 ⟨rr4 x, List.mem_map.2 ⟨x, hx, rfl⟩, hxx⟩
end Go.Proofs.Ytndijajaddkbhaa.Re
