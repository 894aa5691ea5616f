/- The texts of sets: mathematics. -/
import Derived.Test.YtelanmknimapoaaGreatDoorGrpS
import Derived.Lib.Join
import Derived.Lib.ItoaNum
import Derived.Lib.AtoiAll
import Derived.Lib.IndexMore
import Derived.Lib.Split
import Derived.Lib.CountLaws
namespace Go.Proofs.YtelanmknimapoaaGreatDoor.Gf
open Go Go.RowKit
set_option linter.unusedVariables false
set_option linter.unusedSimpArgs false
abbrev By := List UInt8
/-- Behind the run of members that begins at u. -/
def endF (x : W64) : Nat → Nat → Nat
  | 0, u => u
  | n + 1, u => if x.getLsbD u then endF x n (u + 1) else u
def eo (x : W64) (u : Nat) : Nat := endF x (64 - u) u
theorem getL_big (x : W64) {u : Nat} (h : 64 ≤ u) : x.getLsbD u = false := by
  rw [BitVec.getLsbD_eq_getElem?_getD, BitVec.getElem?_eq_none h]; rfl
theorem eo_f {x : W64} {u : Nat} (h : x.getLsbD u = false) : eo x u = u := by
  unfold eo
  cases hn : 64 - u with
  | zero => rfl
  | succ n => unfold endF; rw [if_neg (by rw [h]; decide)]
theorem lt_of_in {x : W64} {u : Nat} (h : x.getLsbD u = true) : u < 64 := by
  rcases Nat.lt_or_ge u 64 with h1 | h1
  · exact h1
  · rw [getL_big x h1] at h; cases h
theorem eo_t {x : W64} {u : Nat} (h : x.getLsbD u = true) : eo x u = eo x (u + 1) := by
  have hu := lt_of_in h
  unfold eo
  rw [show 64 - u = (64 - (u + 1)) + 1 by omega]
  conv => lhs; unfold endF
  rw [if_pos h]
theorem endF_spec (x : W64) : ∀ (n u : Nat), u ≤ endF x n u ∧ endF x n u ≤ u + n ∧ (∀ i, u ≤ i → i < endF x n u → x.getLsbD i = true)
  | 0, u => ⟨Nat.le_refl _, Nat.le_refl _, fun i h1 h2 => by unfold endF at h2; omega⟩
  | n + 1, u => by
    unfold endF
    cases h : x.getLsbD u
    · rw [if_neg (by decide)]
      exact ⟨Nat.le_refl _, by omega, fun i h1 h2 => by omega⟩
    · rw [if_pos rfl]
      obtain ⟨h1, h2, h3⟩ := endF_spec x n (u + 1)
      refine ⟨by omega, by omega, fun i h4 h5 => ?_⟩
      rcases Nat.lt_or_ge u i with h6 | h6
      · exact h3 i h6 h5
      · obtain rfl : i = u := by omega
        exact h
theorem eo_ge (x : W64) (u : Nat) : u ≤ eo x u := (endF_spec x _ u).1
theorem eo_le {x : W64} {u : Nat} (h : u ≤ 64) : eo x u ≤ 64 := by have := (endF_spec x (64 - u) u).2.1; unfold eo; omega
theorem eo_in {x : W64} {u i : Nat} (h1 : u ≤ i) (h2 : i < eo x u) : x.getLsbD i = true := (endF_spec x _ u).2.2 i h1 h2
theorem eo_gt {x : W64} {u : Nat} (h : x.getLsbD u = true) : u < eo x u := by
  rw [eo_t h]; exact eo_ge x (u + 1)
/-- The words from u on. -/
def dg (k : Nat) : By := Lib.decDigits k
def wf (x : W64) : Nat → Nat → List By
  | 0, _ => []
  | n + 1, u => if x.getLsbD u then (if 2 ≤ eo x u - 1 - u then (dg u ++ 45 :: dg (eo x u - 1)) :: wf x n (eo x u) else dg u :: wf x n (u + 1)) else wf x n (u + 1)
theorem wf_big (x : W64) : ∀ (n u : Nat), 64 ≤ u → wf x n u = []
  | 0, _, _ => rfl
  | n + 1, u, h => by
    unfold wf
    rw [if_neg (by rw [getL_big x h]; decide), wf_big x n (u + 1) (by omega)]
theorem wf_fuel (x : W64) : ∀ (n m u : Nat), 64 - u ≤ n → 64 - u ≤ m → wf x n u = wf x m u
  | 0, m, u, h1, _ => by rw [wf_big x 0 u (by omega), wf_big x m u (by omega)]
  | n + 1, 0, u, _, h2 => by rw [wf_big x (n + 1) u (by omega), wf_big x 0 u (by omega)]
  | n + 1, m + 1, u, h1, h2 => by
    unfold wf
    cases h : x.getLsbD u
    · simp only [Bool.false_eq_true, if_false]; exact wf_fuel x n m (u + 1) (by omega) (by omega)
    · simp only [if_true]
      have := eo_gt h
      split
      · rw [wf_fuel x n m (eo x u) (by omega) (by omega)]
      · rw [wf_fuel x n m (u + 1) (by omega) (by omega)]
def W (x : W64) (u : Nat) : List By := wf x 64 u
theorem W_end (x : W64) {u : Nat} (h : 64 ≤ u) : W x u = [] := wf_big x 64 u h
theorem W_eq (x : W64) (u : Nat) (h : u < 64) : W x u = if x.getLsbD u then (if 2 ≤ eo x u - 1 - u then (dg u ++ 45 :: dg (eo x u - 1)) :: W x (eo x u) else dg u :: W x (u + 1)) else W x (u + 1) := by
  have e : W x u = wf x 65 u := wf_fuel x 64 65 u (by omega) (by omega)
  rw [e]
  rfl
theorem W_not {x : W64} {u : Nat} (h : x.getLsbD u = false) : W x u = W x (u + 1) := by
  rcases Nat.lt_or_ge u 64 with h1 | h1
  · rw [W_eq x u h1, if_neg (by rw [h]; decide)]
  · rw [W_end x h1, W_end x (by omega)]
theorem W_run {x : W64} {u : Nat} (h : x.getLsbD u = true) (h2 : 2 ≤ eo x u - 1 - u) : W x u = (dg u ++ 45 :: dg (eo x u - 1)) :: W x (eo x u) := by
  rw [W_eq x u (lt_of_in h), if_pos h, if_pos h2]
theorem W_one {x : W64} {u : Nat} (h : x.getLsbD u = true) (h2 : ¬ 2 ≤ eo x u - 1 - u) : W x u = dg u :: W x (u + 1) := by
  rw [W_eq x u (lt_of_in h), if_pos h, if_neg h2]
/-- The words of a run. -/
def runW (f l : Nat) : List By := if 2 ≤ l - f then [dg f ++ 45 :: dg l] else (List.range' f (l + 1 - f)).map dg
theorem W_jump {x : W64} {u : Nat} (h : x.getLsbD u = true) : W x u = runW u (eo x u - 1) ++ W x (eo x u) := by
  have hg := eo_gt h
  by_cases h2 : 2 ≤ eo x u - 1 - u
  · rw [W_run h h2]; unfold runW; rw [if_pos h2]; rfl
  · rw [W_one h h2]
    unfold runW
    rw [if_neg h2]
    rcases (show eo x u = u + 1 ∨ eo x u = u + 2 by omega) with e | e
    · rw [e]
      have : u + 1 - 1 + 1 - u = 1 := by omega
      rw [this]; rfl
    · have h3 : x.getLsbD (u + 1) = true := eo_in (u := u) (by omega) (by omega)
      have e2 : eo x (u + 1) = u + 2 := by rw [← eo_t h, e]
      rw [W_one h3 (by rw [e2]; omega), e]
      have : u + 2 - 1 + 1 - u = 2 := by omega
      rw [this]; rfl
def fmtS (x : W64) : By := if x = 0#64 then [45] else if x = BitVec.allOnes 64 then [42] else Lib.join (W x 0) [44]
/-! Digits -/
theorem dg_1 {k : Nat} (h : k < 10) : dg k = [UInt8.ofNat (48 + k)] := by unfold dg; rw [Lib.decDigits]; rw [dif_pos h]
theorem dg_2 {k : Nat} (h : ¬ k < 10) (h2 : k < 100) : dg k = [UInt8.ofNat (48 + k / 10), UInt8.ofNat (48 + k % 10)] := by
  unfold dg
  rw [Lib.decDigits, dif_neg h, Lib.decDigits, dif_pos (by omega)]
  rfl
theorem u8_nat {n : Nat} (h : n < 256) : (UInt8.ofNat n).toNat = n := by simp; omega
theorem dg_digit {k : Nat} (h : k < 64) : ∀ c ∈ dg k, 48 ≤ c.toNat ∧ c.toNat ≤ 57 := by
  intro c hc
  by_cases h1 : k < 10
  · rw [dg_1 h1] at hc
    simp only [List.mem_cons, List.not_mem_nil, or_false] at hc
    subst hc; rw [u8_nat (by omega)]; omega
  · rw [dg_2 h1 (by omega)] at hc
    simp only [List.mem_cons, List.not_mem_nil, or_false] at hc
    rcases hc with rfl | rfl <;> rw [u8_nat (by omega)] <;> omega
theorem dg_ne (k : Nat) (h : k < 64) : dg k ≠ [] := by
  by_cases h1 : k < 10
  · rw [dg_1 h1]; simp
  · rw [dg_2 h1 (by omega)]; simp
theorem dg_no {k : Nat} (h : k < 64) {c : UInt8} (hc : c.toNat < 48) : c ∉ dg k := fun hm => by have := dg_digit h c hm; omega
/-! Cutting and splitting -/
theorem join_cons2 (w y : By) (r : List By) (s : By) : Lib.join (w :: y :: r) s = w ++ s ++ Lib.join (y :: r) s := by
  rw [Lib.join_cons, Lib.join_cons]
  simp [Lib.joinTail]
/-! Bounds -/
theorem W_all {Pr : By → Prop} (x : W64) (h1 : ∀ k, k < 64 → Pr (dg k)) (h2 : ∀ f l, f < 64 → l < 64 → Pr (dg f ++ 45 :: dg l)) : ∀ (n u : Nat), ∀ w ∈ wf x n u, Pr w
  | 0, _, w, h => by cases h
  | n + 1, u, w, h => by
    unfold wf at h
    cases hx : x.getLsbD u
    · rw [hx] at h
      simp only [Bool.false_eq_true, if_false] at h
      exact W_all x h1 h2 n (u + 1) w h
    · rw [hx] at h
      simp only [if_true] at h
      have hu := lt_of_in hx
      split at h
      · rcases List.mem_cons.1 h with rfl | h
        · exact h2 u (eo x u - 1) hu (by have := eo_le (x := x) (u := u) (by omega); omega)
        · exact W_all x h1 h2 n (eo x u) w h
      · rcases List.mem_cons.1 h with rfl | h
        · exact h1 u hu
        · exact W_all x h1 h2 n (u + 1) w h
theorem W_len (x : W64) : ∀ (n u : Nat), (wf x n u).length ≤ n
  | 0, _ => Nat.le_refl _
  | n + 1, u => by
    unfold wf
    have h1 := W_len x n (eo x u)
    have h2 := W_len x n (u + 1)
    split
    · split
      · rw [List.length_cons]; omega
      · rw [List.length_cons]; omega
    · omega
theorem dg_len {k : Nat} (h : k < 100) : (dg k).length ≤ 2 := by
  by_cases h1 : k < 10
  · rw [dg_1 h1]; simp
  · rw [dg_2 h1 h]; simp
theorem W_word (x : W64) (u : Nat) : ∀ w ∈ W x u, w ≠ [] ∧ w.length ≤ 5 ∧ (44 : UInt8) ∉ w := by
  refine W_all x (fun k h => ⟨dg_ne k h, ?_, dg_no h (by decide)⟩) (fun f l hf hl => ⟨by simp, ?_, ?_⟩) 64 u
  · have := dg_len (k := k) (by omega); omega
  · have h1 := dg_len (k := f) (by omega)
    have h2 := dg_len (k := l) (by omega)
    simp; omega
  · intro hm
    rcases List.mem_append.1 hm with h | h
    · exact dg_no hf (by decide) h
    · rcases List.mem_cons.1 h with h | h
      · cases h
      · exact dg_no hl (by decide) h
theorem join_len : ∀ (L : List By), (∀ w ∈ L, w.length ≤ 5) → (Lib.join L [44]).length ≤ 6 * L.length
  | [], _ => by simp [Lib.join_nil]
  | [w], h => by
    have := h w (List.mem_cons_self ..)
    rw [Lib.join_one]; simp; omega
  | w :: y :: r, h => by
    have h1 := h w (List.mem_cons_self ..)
    have h2 := join_len (y :: r) (fun z hz => h z (List.mem_cons_of_mem _ hz))
    rw [join_cons2]
    simp at h2 ⊢
    omega
theorem join_ne : ∀ (L : List By), L ≠ [] → (∀ w ∈ L, w ≠ []) → Lib.join L [44] ≠ []
  | [], h, _ => absurd rfl h
  | [w], _, h => by rw [Lib.join_one]; exact h w (List.mem_cons_self ..)
  | w :: y :: r, _, h => by rw [join_cons2]; simp
theorem join_snoc : ∀ (L : List By) (w : By), L ≠ [] → Lib.join (L ++ [w]) [44] = Lib.join L [44] ++ [44] ++ w
  | [], _, h => absurd rfl h
  | [y], w, _ => by rw [Lib.join_one, List.singleton_append, join_cons2, Lib.join_one]
  | y :: z :: r, w, _ => by
    have ih := join_snoc (z :: r) w (by simp)
    rw [List.cons_append, List.cons_append, join_cons2, ← List.cons_append, ih, join_cons2]
    simp
end Go.Proofs.YtelanmknimapoaaGreatDoor.Gf
