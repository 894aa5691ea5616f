/- Merged: GfP GfM. -/
import Derived.Test.YtelanmknimapoaaGreatDoorGfD
/- The contract of group's Parse. -/
namespace Go.Proofs.YtelanmknimapoaaGreatDoor.Gf
open Go Go.RowKit
set_option linter.unusedVariables false
set_option linter.unusedSimpArgs false
theorem fmt_len (x : W64) : (fmtS x).length ≤ 1000 := by
  unfold fmtS
  split
  · simp
  · split
    · simp
    · have h1 := W_mem (x := x) (u := 0) (V := []) rfl
      have h2 := W_mem (x := x) (u := 64) (V := W x 0) (by rw [W_end x (Nat.le_refl _), List.append_nil])
      have h3 := join_len (W x 0) (fun w hw => (h2.2 w hw).2)
      omega
end Go.Proofs.YtelanmknimapoaaGreatDoor.Gf
/- Texts of sets: reading leads back; the specification's reader. -/
namespace Go.Proofs.YtelanmknimapoaaGreatDoor.Gf
open Go Go.RowKit
set_option linter.unusedVariables false
set_option linter.unusedSimpArgs false
theorem bitW_get (u i : Nat) (hi : i < 64) : (bitW u).getLsbD i = decide (i = u) := by
  unfold bitW
  rw [BitVec.getLsbD_shiftLeft]
  simp only [hi, decide_true, Bool.true_and, BitVec.getLsbD_one]
  rcases Nat.lt_trichotomy i u with h | h | h
  · simp [h]; omega
  · subst h; simp
  · have h1 : ¬ i < u := by omega
    have h2 : i - u ≠ 0 := by omega
    have h3 : i ≠ u := by omega
    simp [h1, h2, h3]
theorem rngW_get (s : W64) (f i : Nat) (hi : i < 64) : ∀ n, (rngW s f n).getLsbD i = (s.getLsbD i || decide (f ≤ i ∧ i < f + n))
  | 0 => by
    have : ¬ (f ≤ i ∧ i < f + 0) := by omega
    rw [decide_eq_false this, Bool.or_false]; rfl
  | n + 1 => by
    rw [rngW_succ, BitVec.getLsbD_or, rngW_get s f i hi n, bitW_get _ _ hi, Bool.or_assoc]
    congr 1
    by_cases h1 : i = f + n
    · subst h1; simp
    · by_cases h2 : f ≤ i ∧ i < f + n
      · rw [decide_eq_true h2, decide_eq_true (show f ≤ i ∧ i < f + (n + 1) by omega)]; rfl
      · rw [decide_eq_false h2, decide_eq_false h1, decide_eq_false (show ¬ (f ≤ i ∧ i < f + (n + 1)) by omega)]; rfl
/-- What has been read: the members below u. -/
def Rd (x s : W64) (u : Nat) : Prop := ∀ i, i < 64 → s.getLsbD i = (x.getLsbD i && decide (i < u))
theorem Rd.zero (x : W64) : Rd x 0#64 0 := fun i hi => by simp
theorem Rd.done {x s : W64} {u : Nat} (h : Rd x s u) (hu : 64 ≤ u) : s = x := by
  apply BitVec.eq_of_getLsbD_eq
  intro i hi
  rw [h i hi, decide_eq_true (by omega), Bool.and_true]
theorem Rd.skip {x s : W64} {u : Nat} (h : Rd x s u) (hb : x.getLsbD u = false) : Rd x s (u + 1) := fun i hi => by
  rw [h i hi]
  by_cases h1 : i = u
  · subst h1; rw [hb]; rfl
  · by_cases h2 : i < u
    · rw [decide_eq_true h2, decide_eq_true (show i < u + 1 by omega)]
    · rw [decide_eq_false h2, decide_eq_false (show ¬ i < u + 1 by omega)]
theorem Rd.range {x s : W64} {u n : Nat} (h : Rd x s u) (hb : ∀ i, u ≤ i → i < u + n → x.getLsbD i = true) : Rd x (rngW s u n) (u + n) := fun i hi => by
  rw [rngW_get s u i hi n, h i hi]
  by_cases h2 : i < u
  · rw [decide_eq_true h2, decide_eq_true (show i < u + n by omega), decide_eq_false (show ¬ (u ≤ i ∧ i < u + n) by omega)]; simp
  · by_cases h3 : i < u + n
    · rw [hb i (by omega) h3, decide_eq_true h3, decide_eq_true (show u ≤ i ∧ i < u + n by omega)]; simp
    · rw [decide_eq_false h2, decide_eq_false h3, decide_eq_false (show ¬ (u ≤ i ∧ i < u + n) by omega)]; simp
/-- Words that Format writes. -/
def Gw (w : By) : Prop := (∃ k, k < 64 ∧ w = dg k) ∨ ∃ f l, f < 64 ∧ l < 64 ∧ w = dg f ++ 45 :: dg l
theorem dg_head {k : Nat} (h : k < 64) : ∃ c r, dg k = c :: r ∧ 48 ≤ c.toNat := by
  have h1 := dg_ne k h
  have h2 := dg_digit h
  cases hd : dg k with
  | nil => exact absurd hd h1
  | cons c r => exact ⟨c, r, rfl, (h2 c (by rw [hd]; exact List.mem_cons_self ..)).1⟩
theorem Gw.head {w : By} (h : Gw w) : ∃ c r, w = c :: r ∧ 48 ≤ c.toNat := by
  rcases h with ⟨k, hk, rfl⟩ | ⟨f, l, hf, hl, rfl⟩
  · exact dg_head hk
  · obtain ⟨c, r, h1, h2⟩ := dg_head hf
    exact ⟨c, _, by rw [h1]; rfl, h2⟩
/-! The specification's reader -/
end Go.Proofs.YtelanmknimapoaaGreatDoor.Gf
