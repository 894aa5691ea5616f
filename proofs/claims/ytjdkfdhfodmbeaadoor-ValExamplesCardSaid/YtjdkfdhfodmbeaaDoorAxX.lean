/- An executor of closed runs: drawn regions (2): what surely comes before. -/
import Derived.Test.YtjdkfdhfodmbeaaDoorAxW
namespace Go.Proofs.YtjdkfdhfodmbeaaDoor.Ax
open Go
variable {P : Program} {G : Nat}

theorem binds_eq (e : Edge) : bindsAny e = Region.binds .any e := by
  unfold bindsAny Region.binds
  cases e.ground <;> rfl

theorem bit_eq (m i : Nat) : bit m i = m.testBit i := by
  unfold bit Nat.testBit
  show Nat.beq ((m >>> i) &&& 1) 1 = (1 &&& (m >>> i) != 0)
  rw [Nat.and_comm, Nat.one_and_eq_mod_two]
  rcases Nat.mod_two_eq_zero_or_one (m >>> i) with h | h <;> rw [h] <;> rfl

noncomputable def maskN (acc : T Nat) : List Edge → Nat → Nat
  | [], m => m
  | e :: es, m => if bindsAny e = true then maskN acc es (m ||| ((1 <<< e.on) ||| natAt acc e.on)) else maskN acc es m
noncomputable def masksN : List Oper → Nat → T Nat → T Nat
  | [], _, acc => acc
  | o :: os, i, acc => masksN os (i + 1) (acc.set i (some (maskN acc o.after.toList 0)))

theorem maskOf_eq (acc : T Nat) : ∀ (es : List Edge) (m : Nat) (k : Nat → XR'), maskOf acc es m k = k (maskN acc es m)
  | [], m, k => rfl
  | e :: es, m, k => by
    unfold maskOf maskN
    cases hb : bindsAny e with
    | false => rw [cond_false, if_neg (by simp)]; exact maskOf_eq acc es m k
    | true => rw [cond_true, if_pos rfl, fNat_eq]; exact maskOf_eq acc es _ k

theorem masks_eq : ∀ (os : List Oper) (i : Nat) (acc : T Nat) (k : T Nat → XR'), masks os i acc k = k (masksN os i acc)
  | [], _, _, _ => rfl
  | o :: os, i, acc, k => by
    unfold masks masksN
    rw [maskOf_eq, T.put_eq]
    exact masks_eq os (i + 1) _ k

theorem natAt_set (t : T Nat) (n x i : Nat) : natAt (t.set n (some x)) i = if i = n then x else natAt t i := by
  unfold natAt
  rw [T.get_set]
  by_cases e : i = n
  · rw [if_pos e, if_pos e]
  · rw [if_neg e, if_neg e]

/-- A bit of a mask comes of an edge. -/
theorem maskN_bit {acc : T Nat} {i : Nat} : ∀ (es : List Edge) (m : Nat), (maskN acc es m).testBit i = true → m.testBit i = true ∨ ∃ e ∈ es, bindsAny e = true ∧ (e.on = i ∨ (natAt acc e.on).testBit i = true)
  | [], m, h => .inl h
  | e :: es, m, h => by
    unfold maskN at h
    by_cases hb : bindsAny e = true
    · rw [if_pos hb] at h
      rcases maskN_bit es _ h with h | ⟨e', h1, h2, h3⟩
      · rw [Nat.testBit_or, Nat.testBit_or] at h
        simp only [Bool.or_eq_true] at h
        rcases h with h | h | h
        · exact .inl h
        · refine .inr ⟨e, .head _, hb, .inl ?_⟩
          rw [Nat.one_shiftLeft, Nat.testBit_two_pow] at h
          simpa using h
        · exact .inr ⟨e, .head _, hb, .inr h⟩
      · exact .inr ⟨e', .tail _ h1, h2, h3⟩
    · rw [if_neg hb] at h
      rcases maskN_bit es _ h with h | ⟨e', h1, h2, h3⟩
      · exact .inl h
      · exact .inr ⟨e', .tail _ h1, h2, h3⟩

theorem masksN_old {j : Nat} : ∀ (os : List Oper) (i : Nat) (acc : T Nat), j < i → natAt (masksN os i acc) j = natAt acc j
  | [], _, _, _ => rfl
  | o :: os, i, acc, h => by
    unfold masksN
    rw [masksN_old os (i + 1) _ (by omega), natAt_set, if_neg (by omega)]

theorem masksN_at {n : Nat} {o : Oper} : ∀ (pre : List Oper) (i : Nat) (acc : T Nat), pre[n]? = some o →
    ∃ acc', natAt (masksN pre i acc) (i + n) = maskN acc' o.after.toList 0 ∧ ∀ j, j < i + n → natAt acc' j = natAt (masksN pre i acc) j := by
  intro pre i acc h
  induction pre generalizing n i acc with
  | nil => cases h
  | cons x pre ih =>
    unfold masksN
    cases n with
    | zero =>
      cases h
      refine ⟨acc, ?_, fun j hj => ?_⟩
      · rw [masksN_old _ _ _ (by omega), natAt_set, if_pos (by omega)]
      · rw [masksN_old _ _ _ (by omega), natAt_set, if_neg (by omega)]
    | succ n =>
      obtain ⟨acc', h1, h2⟩ := ih (n := n) (i + 1) (acc.set i (some (maskN acc x.after.toList 0))) (by simpa using h)
      have e : i + 1 + n = i + (n + 1) := by omega
      rw [e] at h1 h2
      exact ⟨acc', h1, h2⟩

/-- What surely comes before: by an edge, or before one that an edge names. -/
theorem mask_bit {ops : List Oper} (hback : ∀ i o, ops[i]? = some o → ∀ e ∈ o.after, Region.binds .any e = true → e.on < i) {j i : Nat} {o : Oper} (ho : ops[j]? = some o) (h : bit (natAt (masksN ops 0 .leaf) j) i = true) :
    ∃ e ∈ o.after, Region.binds .any e = true ∧ (e.on = i ∨ bit (natAt (masksN ops 0 .leaf) e.on) i = true) := by
  obtain ⟨acc', h1, h2⟩ := masksN_at ops 0 .leaf ho
  rw [Nat.zero_add] at h1 h2
  rw [bit_eq, h1] at h
  rcases maskN_bit _ _ h with h | ⟨e, he, hb, h3⟩
  · simp at h
  · rw [binds_eq] at hb
    have he' : e ∈ o.after := by simpa using he
    refine ⟨e, he', hb, ?_⟩
    rcases h3 with h3 | h3
    · exact .inl h3
    · right
      rw [bit_eq, ← h2 e.on (hback j o ho e he' hb)]
      exact h3

/-- The listed operations are closed under 'surely before'; so they stay. -/
def Closed (ops : Array Oper) (listed : Array Bool) : Prop :=
  ∀ j i, listed.getD j false = true → bit (natAt (masksN ops.toList 0 .leaf) j) i = true → listed.getD i false = true

theorem ready_before {ops : Array Oper} {listed : Array Bool} (hback : ∀ i o, ops.toList[i]? = some o → ∀ e ∈ o.after, Region.binds .any e = true → e.on < i) (hc : Closed ops listed) {j : Nat} (hj : j ∈ Region.ready .any ops listed) :
    ∀ i, bit (natAt (masksN ops.toList 0 .leaf) j) i = true → listed.getD i false = true := by
  intro i hi
  obtain ⟨_, _, o, ho, he⟩ := mem_ready' hj
  obtain ⟨e, h1, h2, h3⟩ := mask_bit hback (by simpa using ho) hi
  have := he e h1 h2
  rcases h3 with rfl | h3
  · exact this
  · exact hc _ _ this h3

theorem closed_set {ops : Array Oper} {listed : Array Bool} (hback : ∀ i o, ops.toList[i]? = some o → ∀ e ∈ o.after, Region.binds .any e = true → e.on < i) (hc : Closed ops listed) {j : Nat} (hj : j ∈ Region.ready .any ops listed) :
    Closed ops (listed.setIfInBounds j true) := by
  have mono : ∀ i, listed.getD i false = true → (listed.setIfInBounds j true).getD i false = true := by
    intro i hi
    simp only [Array.getD_eq_getD_getElem?, Array.getElem?_setIfInBounds] at hi ⊢
    by_cases e : j = i
    · subst e
      cases h : listed[j]? with
      | none => rw [h] at hi; cases hi
      | some b => simp [(Array.getElem?_eq_some_iff.1 h).1]
    · rw [if_neg e]; exact hi
  intro a i ha hb
  by_cases e : a = j
  · subst e
    exact mono i (ready_before hback hc hj i hb)
  · have : listed.getD a false = true := by
      simp only [Array.getD_eq_getD_getElem?, Array.getElem?_setIfInBounds] at ha ⊢
      rw [if_neg (fun h => e h.symm)] at ha
      exact ha
    exact mono i (hc a i this hb)
end Go.Proofs.YtjdkfdhfodmbeaaDoor.Ax
