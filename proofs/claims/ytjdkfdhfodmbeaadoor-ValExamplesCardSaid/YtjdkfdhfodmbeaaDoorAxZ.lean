/- An executor of closed runs: drawn regions (4): the order in which the executor goes through them. -/
import Derived.Test.YtjdkfdhfodmbeaaDoorAxY
namespace Go.Proofs.YtjdkfdhfodmbeaaDoor.Ax
open Go
variable {P : Program} {G : Nat}

theorem maskN_keep {acc : T Nat} {i : Nat} : ∀ (es : List Edge) (m : Nat), m.testBit i = true → (maskN acc es m).testBit i = true
  | [], m, h => h
  | e :: es, m, h => by
    unfold maskN
    by_cases hb : bindsAny e = true
    · rw [if_pos hb]; exact maskN_keep es _ (by rw [Nat.testBit_or, h]; rfl)
    · rw [if_neg hb]; exact maskN_keep es m h

theorem maskN_edge {acc : T Nat} {i : Nat} : ∀ (es : List Edge) (m : Nat) (e : Edge), e ∈ es → bindsAny e = true → (e.on = i ∨ (natAt acc e.on).testBit i = true) → (maskN acc es m).testBit i = true
  | [], m, e, he, _, _ => by cases he
  | x :: es, m, e, he, hb, h => by
    unfold maskN
    cases he with
    | head =>
      rw [if_pos hb]
      refine maskN_keep es _ ?_
      rw [Nat.testBit_or, Nat.testBit_or]
      rcases h with h | h
      · have : (1 <<< x.on).testBit i = true := by rw [Nat.one_shiftLeft, Nat.testBit_two_pow]; simpa using h
        rw [this]; simp
      · rw [h]; simp
    | tail _ he =>
      by_cases hx : bindsAny x = true
      · rw [if_pos hx]; exact maskN_edge es _ e he hb h
      · rw [if_neg hx]; exact maskN_edge es m e he hb h

variable {ops : List Oper}

theorem mask_edge (hback : ∀ i o, ops[i]? = some o → ∀ e ∈ o.after, Region.binds .any e = true → e.on < i) {j i : Nat} {o : Oper} (ho : ops[j]? = some o) {e : Edge} (he : e ∈ o.after) (hb : Region.binds .any e = true)
    (h : e.on = i ∨ bit (natAt (masksN ops 0 .leaf) e.on) i = true) : bit (natAt (masksN ops 0 .leaf) j) i = true := by
  obtain ⟨acc', h1, h2⟩ := masksN_at ops 0 .leaf ho
  rw [Nat.zero_add] at h1 h2
  rw [bit_eq, h1]
  refine maskN_edge _ _ e (by simpa using he) (by rw [binds_eq]; exact hb) ?_
  rcases h with h | h
  · exact .inl h
  · right
    rw [bit_eq, ← h2 e.on (hback j o ho e he hb)] at h
    exact h

theorem natAt_out : ∀ (os : List Oper) (i : Nat) (acc : T Nat) (j : Nat), i + os.length ≤ j → natAt (masksN os i acc) j = natAt acc j
  | [], _, _, _, _ => rfl
  | o :: os, i, acc, j, h => by
    unfold masksN
    rw [List.length_cons] at h
    rw [natAt_out os (i + 1) _ j (by omega), natAt_set, if_neg (by omega)]

theorem mask_op {j i : Nat} (h : bit (natAt (masksN ops 0 .leaf) j) i = true) : ∃ o, ops[j]? = some o := by
  cases ho : ops[j]? with
  | some o => exact ⟨o, rfl⟩
  | none =>
    have : ops.length ≤ j := by simpa using ho
    rw [natAt_out ops 0 .leaf j (by omega), bit_eq] at h
    have e : natAt .leaf j = 0 := rfl
    rw [e] at h
    simp at h

/-- What is surely before leads back. -/
theorem mask_lt (hback : ∀ i o, ops[i]? = some o → ∀ e ∈ o.after, Region.binds .any e = true → e.on < i) : ∀ (j i : Nat), bit (natAt (masksN ops 0 .leaf) j) i = true → i < j := by
  intro j
  induction j using Nat.strongRecOn with
  | ind j ih =>
    intro i h
    obtain ⟨o, ho⟩ := mask_op h
    obtain ⟨e, he, hb, h3⟩ := mask_bit hback ho h
    have hlt := hback j o ho e he hb
    rcases h3 with rfl | h3
    · exact hlt
    · have := ih e.on hlt i h3
      omega

theorem mask_trans (hback : ∀ i o, ops[i]? = some o → ∀ e ∈ o.after, Region.binds .any e = true → e.on < i) : ∀ (j i k : Nat), bit (natAt (masksN ops 0 .leaf) j) i = true → bit (natAt (masksN ops 0 .leaf) i) k = true →
    bit (natAt (masksN ops 0 .leaf) j) k = true := by
  intro j
  induction j using Nat.strongRecOn with
  | ind j ih =>
    intro i k h h'
    obtain ⟨o, ho⟩ := mask_op h
    obtain ⟨e, he, hb, h3⟩ := mask_bit hback ho h
    refine mask_edge hback ho he hb (.inr ?_)
    rcases h3 with rfl | h3
    · exact h'
    · exact ih e.on (hback j o ho e he hb) i k h3 h'

theorem number_mem : ∀ (os : List Oper) (i : Nat) (x : Nat × Oper), x ∈ number os i ↔ i ≤ x.1 ∧ os[x.1 - i]? = some x.2
  | [], i, x => by simp [number]
  | o :: os, i, x => by
    unfold number
    rw [List.mem_cons, number_mem os (i + 1) x]
    constructor
    · rintro (h | ⟨h1, h2⟩)
      · subst h; simp
      · refine ⟨by omega, ?_⟩
        have : x.1 - i = (x.1 - (i + 1)) + 1 := by omega
        rw [this]
        simpa using h2
    · rintro ⟨h1, h2⟩
      by_cases e : x.1 = i
      · left
        rw [e, Nat.sub_self] at h2
        simp at h2
        obtain ⟨a, c⟩ := x
        simp only at e h2
        subst e; subst h2; rfl
      · right
        refine ⟨by omega, ?_⟩
        have : x.1 - i = (x.1 - (i + 1)) + 1 := by omega
        rw [this] at h2
        simpa using h2

theorem fresh1_mem (m d : Nat) : ∀ (l : List (Nat × Oper)) (x : Nat × Oper), x ∈ fresh1 m d l ↔ x ∈ l ∧ bit m x.1 = true ∧ bit d x.1 = false
  | [], x => by simp [fresh1]
  | (i, o) :: l, x => by
    unfold fresh1
    cases hc : (bit m i && !bit d i) with
    | true =>
      rw [cond_true, List.mem_cons, List.mem_cons, fresh1_mem m d l x]
      simp only [Bool.and_eq_true, Bool.not_eq_true'] at hc
      constructor
      · rintro (h | ⟨h1, h2⟩)
        · subst h; exact ⟨.inl rfl, hc⟩
        · exact ⟨.inr h1, h2⟩
      · rintro ⟨h | h1, h2⟩
        · exact .inl h
        · exact .inr ⟨h1, h2⟩
    | false =>
      rw [cond_false, List.mem_cons, fresh1_mem m d l x]
      constructor
      · rintro ⟨h1, h2⟩; exact ⟨.inr h1, h2⟩
      · rintro ⟨h | h1, h2⟩
        · subst h
          simp only at h2
          rw [h2.1, h2.2] at hc
          cases hc
        · exact ⟨h1, h2⟩

/-- The numbers rise. -/
theorem number_sorted : ∀ (os : List Oper) (i : Nat), (number os i).Pairwise (fun x y => x.1 < y.1)
  | [], _ => .nil
  | o :: os, i => by
    unfold number
    refine .cons (fun y hy => ?_) (number_sorted os (i + 1))
    have := ((number_mem os (i + 1) y).1 hy).1
    show i < y.1
    omega

theorem fresh1_sorted (m d : Nat) : ∀ (l : List (Nat × Oper)), l.Pairwise (fun x y => x.1 < y.1) → (fresh1 m d l).Pairwise (fun x y => x.1 < y.1)
  | [], _ => .nil
  | (i, o) :: l, h => by
    unfold fresh1
    cases h with
    | cons h1 h2 =>
      cases hc : (bit m i && !bit d i) with
      | true => rw [cond_true]; exact .cons (fun y hy => h1 y ((fresh1_mem m d l y).1 hy).1) (fresh1_sorted m d l h2)
      | false => rw [cond_false]; exact fresh1_sorted m d l h2
end Go.Proofs.YtjdkfdhfodmbeaaDoor.Ax
