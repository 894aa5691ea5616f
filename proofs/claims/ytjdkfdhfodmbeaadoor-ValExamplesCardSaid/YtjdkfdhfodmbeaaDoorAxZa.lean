/- An executor of closed runs: drawn regions (5): the executor's order is a good one. -/
import Derived.Test.YtjdkfdhfodmbeaaDoorAxZ
namespace Go.Proofs.YtjdkfdhfodmbeaaDoor.Ax
open Go
variable {P : Program} {G : Nat} {ops : List Oper}

structure OrdOk (ops : List Oper) (d : Nat) (L : List (Nat × Oper)) : Prop where
  mem : ∀ x ∈ L, ops[x.1]? = some x.2 ∧ bit d x.1 = false
  nodup : L.Pairwise (fun x y => x.1 ≠ y.1)
  bef : ∀ pre x post, L = pre ++ x :: post → ∀ i, bit (natAt (masksN ops 0 .leaf) x.1) i = true → bit d i = true ∨ ∃ y ∈ pre, y.1 = i
  all : ∀ i, i < ops.length → bit d i = true ∨ ∃ y ∈ L, y.1 = i

theorem bit_or (a b i : Nat) : bit (a ||| b) i = (bit a i || bit b i) := by rw [bit_eq, bit_eq, bit_eq, Nat.testBit_or]

theorem ord_append (hback : ∀ i o, ops[i]? = some o → ∀ e ∈ o.after, Region.binds .any e = true → e.on < i) {m d : Nat} {L2 : List (Nat × Oper)}
    (hcl : ∀ j i, bit m j = true → bit (natAt (masksN ops 0 .leaf) j) i = true → bit m i = true) (h2 : OrdOk ops (d ||| m) L2) : OrdOk ops d (fresh1 m d (number ops 0) ++ L2) := by
  have inL1 : ∀ i, i < ops.length → bit m i = true → bit d i = false → ∃ y ∈ fresh1 m d (number ops 0), y.1 = i := by
    intro i hi hm hd
    refine ⟨(i, ops[i]), ?_, rfl⟩
    rw [fresh1_mem, number_mem]
    exact ⟨⟨Nat.zero_le _, by simp [hi]⟩, hm, hd⟩
  have memL1 : ∀ x ∈ fresh1 m d (number ops 0), ops[x.1]? = some x.2 ∧ bit m x.1 = true ∧ bit d x.1 = false := by
    intro x hx
    rw [fresh1_mem, number_mem] at hx
    exact ⟨by simpa using hx.1.2, hx.2⟩
  have hsort := fresh1_sorted m d _ (number_sorted ops 0)
  have lt_of : ∀ x : Nat × Oper, ops[x.1]? = some x.2 → x.1 < ops.length := fun x h => (List.getElem?_eq_some_iff.1 h).1
  refine ⟨fun x hx => ?_, ?_, fun pre x post e i hi => ?_, fun i hi => ?_⟩
  · rcases List.mem_append.1 hx with h | h
    · exact ⟨(memL1 x h).1, (memL1 x h).2.2⟩
    · have := h2.mem x h
      rw [bit_or] at this
      exact ⟨this.1, (Bool.or_eq_false_iff.1 this.2).1⟩
  · rw [List.pairwise_append]
    refine ⟨hsort.imp fun h => Nat.ne_of_lt h, h2.nodup, fun x hx y hy e => ?_⟩
    have h1 := (memL1 x hx).2.1
    have h3 := (h2.mem y hy).2
    rw [bit_or, ← e, h1, Bool.or_true] at h3
    cases h3
  · rcases List.append_eq_append_iff.1 e with ⟨a, e1, e2⟩ | ⟨a, e1, e2⟩
    · -- x lies in L2
      have hx := h2.mem x (by rw [e2]; simp)
      rcases h2.bef a x post e2 i hi with h | ⟨y, hy, hyi⟩
      · rw [bit_or] at h
        cases hd : bit d i with
        | true => exact .inl rfl
        | false =>
          rw [hd, Bool.false_or] at h
          have : i < ops.length := Nat.lt_trans (mask_lt hback _ _ hi) (lt_of x hx.1)
          obtain ⟨y, h1, h3⟩ := inL1 i this h hd
          exact .inr ⟨y, by rw [e1]; exact List.mem_append_left _ h1, h3⟩
      · exact .inr ⟨y, by rw [e1]; exact List.mem_append_right _ hy, hyi⟩
    · cases a with
      | nil =>
        rw [List.append_nil] at e1
        rw [List.nil_append] at e2
        have hx := h2.mem x (by rw [← e2]; simp)
        rcases h2.bef [] x post e2.symm i hi with h | ⟨y, hy, _⟩
        · rw [bit_or] at h
          cases hd : bit d i with
          | true => exact .inl rfl
          | false =>
            rw [hd, Bool.false_or] at h
            have : i < ops.length := Nat.lt_trans (mask_lt hback _ _ hi) (lt_of x hx.1)
            obtain ⟨y, h1, h3⟩ := inL1 i this h hd
            exact .inr ⟨y, by rw [← e1]; exact h1, h3⟩
        · cases hy
      | cons z a =>
        rw [List.cons_append] at e2
        cases e2
        -- x lies in L1
        have hx := memL1 x (by rw [e1]; simp)
        have hm := hcl _ _ hx.2.1 hi
        cases hd : bit d i with
        | true => exact .inl rfl
        | false =>
          have hlt := mask_lt hback _ _ hi
          obtain ⟨y, h1, h3⟩ := inL1 i (Nat.lt_trans hlt (lt_of x hx.1)) hm hd
          refine .inr ⟨y, ?_, h3⟩
          rw [e1] at h1 hsort
          rcases List.mem_append.1 h1 with h | h
          · exact h
          · exfalso
            rw [List.pairwise_append] at hsort
            cases h with
            | head => omega
            | tail _ h =>
              cases hsort.2.1 with
              | cons hh _ => have := hh y h; omega
  · rcases h2.all i hi with h | ⟨y, hy, hyi⟩
    · rw [bit_or] at h
      cases hd : bit d i with
      | true => exact .inl rfl
      | false =>
        rw [hd, Bool.false_or] at h
        obtain ⟨y, h1, h3⟩ := inL1 i hi h hd
        exact .inr ⟨y, List.mem_append_left _ h1, h3⟩
    · exact .inr ⟨y, List.mem_append_right _ hy, hyi⟩

theorem number_length : ∀ (os : List Oper) (i : Nat), (number os i).length = os.length
  | [], _ => rfl
  | o :: os, i => by unfold number; rw [List.length_cons, number_length os (i + 1), List.length_cons]

theorem order_ok (hback : ∀ i o, ops[i]? = some o → ∀ e ∈ o.after, Region.binds .any e = true → e.on < i) : ∀ (l : List (Nat × Oper)) (d : Nat), OrdOk ops d (orderFrom (number ops 0) (masksN ops 0 .leaf) l d)
  | [], d => by
    unfold orderFrom
    have hb : ∀ i, bit (Nat.sub (Nat.pow 2 (number ops 0).length) 1) i = decide (i < ops.length) := by
      intro i
      rw [number_length, bit_eq]
      exact Nat.testBit_two_pow_sub_one ops.length i
    rw [← List.append_nil (fresh1 _ d (number ops 0))]
    refine ord_append hback (fun j i hj hi => ?_) ⟨fun x hx => (by cases hx), .nil, fun pre x post e => ?_, fun i hi => .inl ?_⟩
    · rw [hb] at hj ⊢
      have := mask_lt hback _ _ hi
      simp only [decide_eq_true_eq] at hj ⊢
      omega
    · cases pre <;> cases e
    · rw [bit_or, hb]; simp [hi]
  | (i, o) :: l, d => by
    unfold orderFrom
    cases he : effectful o with
    | false => rw [cond_false]; exact order_ok hback l d
    | true =>
      rw [cond_true, fNat_eq, fNat_eq]
      refine ord_append hback (fun j k hj hk => ?_) (order_ok hback l _)
      have e : Nat.lor (natAt (masksN ops 0 .leaf) i) (Nat.pow 2 i) = natAt (masksN ops 0 .leaf) i ||| 2 ^ i := rfl
      rw [e, bit_or] at hj ⊢
      have hp : ∀ j, bit (2 ^ i) j = decide (i = j) := fun j => by rw [bit_eq, Nat.testBit_two_pow]
      rw [hp] at hj
      simp only [Bool.or_eq_true, decide_eq_true_eq] at hj ⊢
      rcases hj with h | rfl
      · exact .inl (mask_trans hback _ _ _ h hk)
      · exact .inl hk
end Go.Proofs.YtjdkfdhfodmbeaaDoor.Ax
