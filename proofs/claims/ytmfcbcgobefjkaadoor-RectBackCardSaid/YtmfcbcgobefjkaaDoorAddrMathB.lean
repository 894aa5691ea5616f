/- Addresses as lists of bytes, second part: what the specification's two loops say of them. Plain mathematics. -/
import Derived.Test.YtmfcbcgobefjkaaDoorAddrMath
namespace Go.Proofs.YtmfcbcgobefjkaaDoor.AM
def lv (c : Int) : Int := if kd c = 1 then nm c else 0
theorem lv_1 {c : Int} (h : kd c = 1) : lv c = nm c := by unfold lv; rw [if_pos h]
theorem lv_0 {c : Int} (h : kd c ≠ 1) : lv c = 0 := by unfold lv; rw [if_neg h]
theorem v26_next (M : Int) (l : List UInt8) (c : UInt8) : v26 M (l ++ [c]) = if M < 26 * v26 M l + nm (c.toNat : Int) then M else 26 * v26 M l + nm (c.toNat : Int) := by
  rw [v26_snoc]; split <;> omega
theorem v10_next (M : Int) (l : List UInt8) (c : UInt8) : v10 M (l ++ [c]) = if M < 10 * v10 M l + nm (c.toNat : Int) then M else 10 * v10 M l + nm (c.toNat : Int) := by
  rw [v10_snoc]; split <;> omega
theorem v26_bd (M : Int) (h : 0 ≤ M) (l : List UInt8) : 0 ≤ v26 M l ∧ v26 M l ≤ M := by
  have := v26_cap M M h (Int.le_refl _) l
  omega
theorem v10_bd (M : Int) (h : 0 ≤ M) (l : List UInt8) : 0 ≤ v10 M l ∧ v10 M l ≤ M := by
  have := v10_cap M M h (Int.le_refl _) l
  omega
theorem CZ_mixed {l : List UInt8} (h : ¬ AL l) : CZ l = (0, 4) := by
  unfold CZ
  cases hr : rd l with
  | none => rfl
  | some s =>
    obtain ⟨a, b, rfl, ha, hb, hl⟩ := rd_split l s hr
    rcases hl with rfl | hl
    · rw [List.append_nil] at h; exact absurd ha h
    · rw [rd_digits a b ha hl hb, Option.some.injEq] at hr
      subst hr
      obtain ⟨c, t, rfl, _⟩ := hl
      simp only
      rw [if_pos (Or.inr (by simp; omega))]
theorem CZ_letters {l : List UInt8} (h : AL l) (hn : l ≠ []) : CZ l = if 1024 < v26 1025 l then (0, 3) else (v26 1025 l, 0) := by
  unfold CZ
  rw [rd_letters l h]
  have hc := v26_cap 1025 1048576 (by omega) (by omega) l
  have hlen : 0 < l.length := List.length_pos_iff.2 hn
  simp only
  rw [if_neg (by rw [not_or]; exact ⟨by omega, by simp⟩)]
  by_cases h1 : 1024 < v26 1048576 l
  · rw [if_pos h1, if_pos (by omega)]
  · rw [if_neg h1, if_neg (by omega), show v26 1025 l = v26 1048576 l by omega]
theorem CZ_nil : CZ [] = (0, 4) := rfl
/-- What is read has letters, then digits. -/
theorem rd_kinds {l : List UInt8} {s : St} (h : rd l = some s) : (∀ i (hi : i < l.length), kd (l[i].toNat : Int) = 1 ∨ kd (l[i].toNat : Int) = 2) ∧
    (∀ i j (hi : i < l.length) (hj : j < l.length), i < j → kd (l[i].toNat : Int) = 2 → kd (l[j].toNat : Int) = 2) := by
  obtain ⟨a, b, rfl, ha, hb, _⟩ := rd_split l s h
  have g1 : ∀ i (hi : i < (a ++ b).length), i < a.length → kd ((a ++ b)[i].toNat : Int) = 1 := fun i hi h => by
    rw [List.getElem_append_left h]; exact ha _ (List.getElem_mem h)
  have g2 : ∀ i (hi : i < (a ++ b).length), ¬ i < a.length → kd ((a ++ b)[i].toNat : Int) = 2 := fun i hi h => by
    rw [List.getElem_append_right (by omega)]; exact hb _ (List.getElem_mem _)
  constructor
  · intro i hi
    by_cases h : i < a.length
    · exact Or.inl (g1 i hi h)
    · exact Or.inr (g2 i hi h)
  · intro i j hi hj hij hk
    by_cases h : i < a.length
    · have := g1 i hi h; omega
    · exact g2 j hj (by omega)
theorem AL_get {l : List UInt8} {n : Nat} (h : AL (l.take n)) (i : Nat) (hi : i < l.length) (hn : i < n) : kd (l[i].toNat : Int) = 1 := by
  refine h _ ?_
  rw [List.mem_take_iff_getElem]
  exact ⟨i, by omega, rfl⟩
theorem PZ_four {l : List UInt8} (h : ∀ s, rd l = some s → s.n1 = 0 ∨ s.n2 = 0) : PZ l = (0, 0, 4) := by
  unfold PZ
  cases hr : rd l with
  | none => rfl
  | some s => simp only; rw [if_pos (h s hr)]
theorem PZ_zero {l : List UInt8} (h : l = [] ∨ ∃ hi : 0 < l.length, kd (l[0].toNat : Int) ≠ 1) : PZ l = (0, 0, 4) := by
  refine PZ_four fun s hr => ?_
  left
  obtain ⟨a, b, rfl, ha, hb, hl⟩ := rd_split l s hr
  have ha0 : a = [] := by
    rcases h with h | ⟨hi, h⟩
    · simp at h; exact h.1
    · cases a with
      | nil => rfl
      | cons c t => exact absurd (ha c (by simp)) h
  subst ha0
  rcases hl with rfl | hl
  · rw [rd_letters _ (by simpa using ha), Option.some.injEq] at hr; subst hr; rfl
  · rw [rd_digits [] b ha hl hb, Option.some.injEq] at hr; subst hr; rfl
theorem PZ_all {l : List UInt8} (h : AL l) : PZ l = (0, 0, 4) := by
  refine PZ_four fun s hr => ?_
  right
  rw [rd_letters _ h, Option.some.injEq] at hr; subst hr; rfl
theorem PZ_lead0 {l : List UInt8} {n : Nat} (h : AL (l.take n)) (hn : n < l.length) (h0 : kd (l[n].toNat : Int) = 2) (h1 : nm (l[n].toNat : Int) = 0) : PZ l = (0, 0, 4) := by
  refine PZ_four fun s hr => ?_
  exfalso
  obtain ⟨a, b, rfl, ha, hb, hl⟩ := rd_split l s hr
  have e : a.length = n := by
    rcases Nat.lt_trichotomy a.length n with e | e | e
    · have := AL_get h a.length (by omega) e
      rw [List.getElem_append_right (Nat.le_refl _)] at this
      have h2 := hb _ (List.getElem_mem (l := b) (n := a.length - a.length) (by simp at hn; omega))
      omega
    · exact e
    · rw [List.getElem_append_left e] at h0
      have := ha _ (List.getElem_mem e); omega
  subst e
  rcases hl with rfl | ⟨c, t, rfl, hc, hz⟩
  · simp at hn
  · rw [List.getElem_append_right (Nat.le_refl _)] at h1
    simp at h1
    exact hz h1
theorem PZ_other {l : List UInt8} {n i : Nat} (hn : n < l.length) (hk : kd (l[n].toNat : Int) ≠ 1) (hi : i < l.length) (hni : n ≤ i) (h : kd (l[i].toNat : Int) ≠ 2) : PZ l = (0, 0, 4) := by
  refine PZ_four fun s hr => ?_
  exfalso
  obtain ⟨g1, g2⟩ := rd_kinds hr
  have h1 := g1 n hn
  by_cases e : n = i
  · subst e; omega
  · exact h (g2 n i hn hi (by omega) (by omega))
theorem Lead_drop {l : List UInt8} {n : Nat} (hn : n < l.length) (h0 : kd (l[n].toNat : Int) = 2) (h1 : nm (l[n].toNat : Int) ≠ 0) : Lead (l.drop n) :=
  ⟨l[n], l.drop (n + 1), List.drop_eq_getElem_cons hn, h0, h1⟩
theorem PZ_parts {l : List UInt8} {n : Nat} (ha : AL (l.take n)) (h0 : 0 < n) (hn : n < l.length) (hb : AD (l.drop n)) (hl : Lead (l.drop n)) :
    PZ l = if (CZ (l.take n)).2 ≠ 0 then (0, 0, (CZ (l.take n)).2) else if 1024 < v10 1025 (l.drop n) then (0, 0, 3) else ((CZ (l.take n)).1, v10 1025 (l.drop n), 0) := by
  have hr := rd_digits _ _ ha hl hb
  rw [List.take_append_drop] at hr
  have hne : l.take n ≠ [] := by intro h; have := congrArg List.length h; rw [List.length_take, List.length_nil] at this; omega
  have hc := v26_cap 1025 1048576 (by omega) (by omega) (l.take n)
  have hd := v10_cap 1025 1048576 (by omega) (by omega) (l.drop n)
  have p1 := v26_pos 1048576 (by omega) _ ha hne
  have p2 := v10_pos 1048576 (by omega) _ hb hl
  have l1 : ((l.take n).length : Int) ≠ 0 := by rw [List.length_take]; omega
  have l2 : ((l.drop n).length : Int) ≠ 0 := by rw [List.length_drop]; omega
  have hP : PZ l = if okR (v26 1048576 (l.take n)) (v10 1048576 (l.drop n)) = true then (v26 1048576 (l.take n), v10 1048576 (l.drop n), 0) else (0, 0, 3) := by
    unfold PZ; rw [hr]; simp only; rw [if_neg (by rw [not_or]; exact ⟨l1, l2⟩)]
  rw [hP, CZ_letters ha hne]
  generalize v26 1048576 (l.take n) = V at *
  generalize v10 1048576 (l.drop n) = W at *
  generalize v26 1025 (l.take n) = V' at *
  generalize v10 1025 (l.drop n) = W' at *
  by_cases h1 : 1024 < V'
  · rw [if_pos h1, if_neg (by unfold okR; simp; omega)]; rfl
  · rw [if_neg h1]
    simp only [ne_eq, not_true_eq_false, if_false]
    by_cases h2 : 1024 < W'
    · rw [if_pos h2, if_neg (by unfold okR; simp; omega)]
    · rw [if_neg h2, if_pos (by unfold okR; simp; omega), show V' = V by omega, show W' = W by omega]
end Go.Proofs.YtmfcbcgobefjkaaDoor.AM
