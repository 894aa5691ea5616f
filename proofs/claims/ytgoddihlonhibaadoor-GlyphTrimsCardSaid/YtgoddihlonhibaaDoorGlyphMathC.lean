/- What a text without superfluous blanks looks like. No run in this file. -/
import Derived.Test.YtgoddihlonhibaaDoorGlyphMath
namespace Go.Proofs.YtgoddihlonhibaaDoor.GM
open Go
theorem tr_p (p q : Bool) (l : List UInt8) : tr false p l = tr false q l := by
  cases l with
  | nil => rfl
  | cons c l => unfold tr; split <;> simp
theorem tr_idem (p : Bool) (l : List UInt8) : tr true false (tr true p l) = tr true p l := by
  induction l generalizing p with
  | nil => rfl
  | cons c l ih =>
    by_cases hc : c = 32
    · simp only [tr, if_pos hc]; exact ih true
    · cases p with
      | false => simp only [tr, if_neg hc, Bool.and_false, Bool.false_eq_true, if_false]; rw [ih false]
      | true => simp only [tr, if_neg hc, Bool.and_true, if_true]; simp [ih false]
theorem trim_trim (l : List UInt8) : trim (trim l) = trim l := by
  unfold trim
  have key : ∀ (p q : Bool) (l : List UInt8), tr false q (tr false p l) = tr false p l := by
    intro p q l
    induction l generalizing p q with
    | nil => rfl
    | cons c l ih =>
      by_cases hc : c = 32
      · simp only [tr, if_pos hc]; exact ih true q
      · simp only [tr, if_neg hc, Bool.false_and, Bool.false_eq_true, if_false]; rw [tr_idem]
  exact key _ _ _
/-- The bytes that are no blanks. -/
def fil (l : List UInt8) : List UInt8 := l.filter (· != 32)
theorem fil_tr (e p : Bool) (l : List UInt8) : fil (tr e p l) = fil l := by
  induction l generalizing e p with
  | nil => rfl
  | cons c l ih =>
    by_cases hc : c = 32
    · have h := ih e true
      simp only [tr, if_pos hc, h]; simp [fil, hc]
    · have h := ih true false
      have hb : (c != 32) = true := by simpa using hc
      unfold fil at *
      simp only [tr, if_neg hc]
      split <;> simp [hb, h]
theorem tr_up (e p : Bool) (l : List UInt8) : tr e p (l.map up) = (tr e p l).map up := by
  induction l generalizing e p with
  | nil => rfl
  | cons c l ih =>
    by_cases hc : c = 32
    · have hu : up c = 32 := (up_32 c).2 hc
      simp only [List.map_cons, tr, if_pos hc, if_pos hu]; exact ih _ _
    · have hu : ¬ up c = 32 := fun h => hc ((up_32 c).1 h)
      have h32 : up 32 = 32 := (up_32 32).2 rfl
      simp only [List.map_cons, tr, if_neg hc, if_neg hu, ih]
      split <;> simp [h32]
theorem trim_up (l : List UInt8) : trim (l.map up) = (trim l).map up := tr_up _ _ _
theorem trim_more (l : List UInt8) : trim (32 :: (l ++ [32, 32])) = trim l := by
  unfold trim
  have h1 : tr false false (32 :: (l ++ [32, 32])) = tr false true (l ++ [32, 32]) := by simp [tr]
  have h2 : l ++ [32, 32] = (l ++ [32]) ++ [32] := by simp
  rw [h1, h2, tr_snoc, tr_snoc, if_pos rfl, tr_p true false]
  simp
def nf : Bool → List UInt8 → Bool
  | b, [] => !b
  | b, c :: l => if c = 32 then !b && nf true l else nf false l
theorem nf_tr (p : Bool) (l : List UInt8) : nf false (tr true p l) = true := by
  induction l generalizing p with
  | nil => rfl
  | cons c l ih =>
    by_cases hc : c = 32
    · simp only [tr, if_pos hc]; exact ih true
    · cases p with
      | false => simp only [tr, if_neg hc, Bool.and_false, Bool.false_eq_true, if_false, nf]; exact ih false
      | true => simp only [tr, if_neg hc, Bool.and_true, if_true, nf]; simp [ih false]
theorem nf_trim (l : List UInt8) : trim l = [] ∨ nf true (trim l) = true := by
  unfold trim
  have key : ∀ (p : Bool) (l : List UInt8), tr false p l = [] ∨ nf true (tr false p l) = true := by
    intro p l
    induction l generalizing p with
    | nil => exact .inl rfl
    | cons c l ih =>
      by_cases hc : c = 32
      · simp only [tr, if_pos hc]; exact ih true
      · right
        simp only [tr, if_neg hc, Bool.false_and, Bool.false_eq_true, if_false, nf]
        exact nf_tr false l
  exact key _ _
theorem nf_at (l : List UInt8) : ∀ (b : Bool), nf b l = true → ∀ i (h : i < l.length), l[i] = 32 → i + 1 < l.length ∧ (i = 0 → b = false) ∧ (∀ (h0 : 0 < i), l[i - 1] ≠ 32) := by
  induction l with
  | nil => intro b _ i h; simp at h
  | cons c l ih =>
    intro b hn i h hi
    by_cases hc : c = 32
    · simp only [nf, if_pos hc, Bool.and_eq_true, Bool.not_eq_true'] at hn
      obtain ⟨hb, hn⟩ := hn
      cases i with
      | zero =>
        refine ⟨?_, fun _ => hb, fun h0 => absurd h0 (Nat.lt_irrefl 0)⟩
        cases l with
        | nil => simp [nf] at hn
        | cons d l => simp
      | succ j =>
        have h' : j < l.length := by simpa using h
        have := ih true hn j h' (by simpa using hi)
        refine ⟨by simp; exact this.1, fun h => by omega, fun _ => ?_⟩
        cases j with
        | zero => have := this.2.1 rfl; cases this
        | succ m => have := this.2.2 (by omega); simpa using this
    · simp only [nf, if_neg hc] at hn
      cases i with
      | zero => simp at hi; exact absurd hi hc
      | succ j =>
        have h' : j < l.length := by simpa using h
        have := ih false hn j h' (by simpa using hi)
        refine ⟨by simp; exact this.1, fun h => by omega, fun _ => ?_⟩
        cases j with
        | zero => simpa using hc
        | succ m => have := this.2.2 (by omega); simpa using this
theorem trim_at (l : List UInt8) (i : Nat) (h : i < (trim l).length) (hi : (trim l)[i] = 32) : 0 < i ∧ i + 1 < (trim l).length ∧ ∀ (h0 : 0 < i), (trim l)[i - 1] ≠ 32 := by
  rcases nf_trim l with he | hn
  · rw [he] at h; simp at h
  · obtain ⟨h1, h2, h3⟩ := nf_at _ true hn i h hi
    refine ⟨?_, h1, h3⟩
    rcases Nat.eq_zero_or_pos i with e | e
    · have := h2 e; cases this
    · exact e
theorem tr_pre (e p : Bool) (l m : List UInt8) : ∃ r, tr e p (l ++ m) = tr e p l ++ r := by
  induction l generalizing e p with
  | nil => exact ⟨_, rfl⟩
  | cons c l ih =>
    by_cases hc : c = 32
    · simp only [List.cons_append, tr, if_pos hc]; exact ih _ _
    · obtain ⟨r, hr⟩ := ih true false
      refine ⟨r, ?_⟩
      simp only [List.cons_append, tr, if_neg hc, hr]
      split <;> simp
theorem fil_snoc (l : List UInt8) (c : UInt8) : fil (l ++ [c]) = fil l ++ (if c = 32 then [] else [c]) := by
  unfold fil
  rw [List.filter_append]
  by_cases hc : c = 32 <;> simp [hc]
theorem fil_len (l : List UInt8) : (fil l).length ≤ l.length := List.length_filter_le _ _
end Go.Proofs.YtgoddihlonhibaaDoor.GM
