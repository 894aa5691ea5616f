/- An executor of closed runs: drawn regions (3): the plan. -/
import Derived.Test.YtjdkfdhfodmbeaaDoorAxX
namespace Go.Proofs.YtjdkfdhfodmbeaaDoor.Ax
open Go
variable {P : Program} {G : Nat}

theorem writers_ok {l : List Step} : ∀ (os : List Oper) (i : Nat) (w : T Nat) (k : T Nat → XR'), writers os i w k = some l →
    ∃ w', k w' = some l ∧ (∀ n o d, os[n]? = some o → o.dst = some d → w'.get d = some (i + n)) ∧
      (∀ d j, w'.get d = some j → w.get d = some j ∨ ∃ n o, os[n]? = some o ∧ o.dst = some d ∧ j = i + n) ∧ (∀ d j, w.get d = some j → w'.get d = some j)
  | [], i, w, k, h => ⟨w, h, fun n o d ho => by simp at ho, fun d j h => .inl h, fun d j h => h⟩
  | o :: os, i, w, k, h => by
    unfold writers at h
    cases hd : o.dst with
    | none =>
      rw [hd] at h
      obtain ⟨w', g1, g2, g3, g4⟩ := writers_ok os (i + 1) w k h
      refine ⟨w', g1, fun n o' d ho hd' => ?_, fun d j hj => ?_, g4⟩
      · cases n with
        | zero => cases ho; rw [hd] at hd'; cases hd'
        | succ n => have := g2 n o' d (by simpa using ho) hd'; rw [this]; congr 1; omega
      · rcases g3 d j hj with h | ⟨n, o', a, b, c⟩
        · exact .inl h
        · exact .inr ⟨n + 1, o', by simpa using a, b, by omega⟩
    | some d0 =>
      rw [hd] at h
      simp only at h
      cases hw : w.get d0 with
      | some x => rw [hw] at h; cases h
      | none =>
        rw [hw] at h
        simp only [T.put_eq] at h
        obtain ⟨w', g1, g2, g3, g4⟩ := writers_ok os (i + 1) _ k h
        have h0 : w'.get d0 = some i := g4 d0 i (by rw [T.get_set, if_pos rfl])
        refine ⟨w', g1, fun n o' d ho hd' => ?_, fun d j hj => ?_, fun d j hj => ?_⟩
        · cases n with
          | zero => cases ho; rw [hd] at hd'; cases hd'; exact h0
          | succ n => have := g2 n o' d (by simpa using ho) hd'; rw [this]; congr 1; omega
        · rcases g3 d j hj with h | ⟨n, o', a, b, c⟩
          · rw [T.get_set] at h
            by_cases e : d = d0
            · rw [if_pos e] at h; cases h; exact .inr ⟨0, o, rfl, by rw [hd, e], rfl⟩
            · rw [if_neg e] at h; exact .inl h
          · exact .inr ⟨n + 1, o', by simpa using a, b, by omega⟩
        · refine g4 d j ?_
          rw [T.get_set]
          by_cases e : d = d0
          · subst e; rw [hw] at hj; cases hj
          · rw [if_neg e]; exact hj

theorem opsOk_at {ms w : T Nat} : ∀ (os : List Oper) (i : Nat), opsOk ms w i os = true → ∀ n o, os[n]? = some o → opOk ms w (natAt ms (i + n)) (i + n) o = true
  | [], _, _, n, o, ho => by simp at ho
  | x :: os, i, h, n, o, ho => by
    unfold opsOk at h
    cases hx : opOk ms w (natAt ms i) i x with
    | false => rw [hx] at h; cases h
    | true =>
      rw [hx, cond_true] at h
      cases n with
      | zero => cases ho; exact hx
      | succ n =>
        have := opsOk_at os (i + 1) h n o (by simpa using ho)
        have e : i + 1 + n = i + (n + 1) := by omega
        rw [e] at this
        exact this

noncomputable def stepOf (P : Program) (G : Nat) (all : List Oper) (ms : T Nat) (x : Nat × Oper) : Step := .mk x.1 (natAt ms x.1) (wantBx all x.2.guard) (bxOf P G x.2) (dstBx x.2.dst)

theorem fPlan_eq {β : Type} (all : List Oper) (ms : T Nat) : ∀ (l : List (Nat × Oper)) (k : List Step → β), fPlan P G all ms l k = k (l.map (stepOf P G all ms))
  | [], _ => rfl
  | x :: l, k => by
    obtain ⟨j, o⟩ := x
    unfold fPlan
    rw [fPlan_eq all ms l]
    simp only [fNat_eq, fWBx_eq, fBx_eq, fDBx_eq]
    rfl

/-- What a plan says of its region. -/
structure PlanOk (P : Program) (G : Nat) (ops : List Oper) (l : List Step) (ms w : T Nat) : Prop where
  mask : ms = masksN ops 0 .leaf
  steps : l = (orderFrom (number ops 0) ms (number ops 0) 0).map (stepOf P G ops ms)
  op : ∀ j o, ops[j]? = some o → opOk ms w (natAt ms j) j o = true
  writes : ∀ j o d, ops[j]? = some o → o.dst = some d → w.get d = some j
  written : ∀ d j, w.get d = some j → ∃ o, ops[j]? = some o ∧ o.dst = some d

theorem mkPlan_ok {ops : List Oper} {l : List Step} (h : mkPlan P G ops = some l) : ∃ ms w, PlanOk P G ops l ms w := by
  unfold mkPlan at h
  rw [masks_eq] at h
  obtain ⟨w, h1, h2, h3, h4⟩ := writers_ok _ _ _ _ h
  cases ho : opsOk (masksN ops 0 .leaf) w 0 ops with
  | false => rw [ho] at h1; cases h1
  | true =>
    rw [ho, cond_true, fPlan_eq] at h1
    cases h1
    refine ⟨_, w, rfl, rfl, fun j o hj => ?_, fun j o d hj hd => ?_, fun d j hd => ?_⟩
    · have := opsOk_at ops 0 ho j o hj
      rwa [Nat.zero_add] at this
    · have := h2 j o d hj hd
      rwa [Nat.zero_add] at this
    · rcases h3 d j hd with h | ⟨n, o, a, b, c⟩
      · cases h
      · rw [Nat.zero_add] at c; subst c; exact ⟨o, a, b⟩

theorem edgesOk_mem {j : Nat} : ∀ (es : List Edge), edgesOk j es = true → ∀ e ∈ es, bindsAny e = true → e.on < j
  | [], _, e, he, _ => by cases he
  | x :: es, h, e, he, hb => by
    unfold edgesOk at h
    cases hx : (cond (bindsAny x) (Nat.blt x.on j) true) with
    | false => rw [hx] at h; cases h
    | true =>
      rw [hx, cond_true] at h
      cases he with
      | head => rw [hb, cond_true] at hx; exact Nat.le_of_ble_eq_true hx
      | tail _ he => exact edgesOk_mem es h e he hb

theorem PlanOk.back {ops : List Oper} {l : List Step} {ms w : T Nat} (p : PlanOk P G ops l ms w) : ∀ i o, ops[i]? = some o → ∀ e ∈ o.after, Region.binds .any e = true → e.on < i := by
  intro i o ho e he hb
  have h := p.op i o ho
  unfold opOk at h
  simp only [Bool.and_eq_true] at h
  exact edgesOk_mem _ h.1.1.1 e (by simpa using he) (by rw [binds_eq]; exact hb)

/-- Who writes a temporary that an operation names comes surely before it or surely behind it. -/
theorem PlanOk.named {ops : List Oper} {l : List Step} {ms w : T Nat} (p : PlanOk P G ops l ms w) {j : Nat} {o : Oper} (ho : ops[j]? = some o) {t : Tmp} (ht : Operand.tmp t ∈ o.op.operands) {i : Nat} {x : Oper} (hx : ops[i]? = some x) (hd : x.dst = some t) :
    i ≠ j ∧ (bit (natAt ms j) i = true ∨ bit (natAt ms i) j = true) := by
  have h := p.op j o ho
  unfold opOk at h
  simp only [Bool.and_eq_true] at h
  have h1 := h.1.1.2
  have hw := p.writes i x t hx hd
  have noB : ∀ z : Bool, cond z false false = true → False := fun z h => by cases z <;> cases h
  have gen : ∀ os : List Operand, tmpOk ms w (natAt ms j) j os = true → Operand.tmp t ∈ os → i ≠ j ∧ (bit (natAt ms j) i = true ∨ bit (natAt ms i) j = true) := by
    intro os
    induction os with
    | nil => intro _ h; cases h
    | cons y os ih =>
      intro h hm
      cases hm with
      | head =>
        unfold tmpOk at h
        rw [hw] at h
        simp only at h
        cases e : Nat.beq i j with
        | true => rw [e] at h; cases h
        | false =>
          rw [e, cond_false] at h
          refine ⟨fun e' => (by subst e'; rw [Nat.beq_refl] at e; cases e), ?_⟩
          cases hb : bit (natAt ms j) i with
          | true => exact .inl rfl
          | false =>
            rw [hb, cond_false] at h
            cases hb2 : bit (natAt ms i) j with
            | true => exact .inr rfl
            | false => rw [hb2] at h; cases h
      | tail _ hm =>
        cases y with
        | tmp u =>
          unfold tmpOk at h
          refine ih ?_ hm
          cases hc : tmpOk ms w (natAt ms j) j os with
          | true => rfl
          | false =>
            rw [hc] at h
            exact (noB _ h).elim
        | _ => exact ih h hm
  exact gen _ h1 (by simpa using ht)

/-- A guard's operation comes surely before. -/
theorem PlanOk.guarded {ops : List Oper} {l : List Step} {ms w : T Nat} (p : PlanOk P G ops l ms w) {j : Nat} {o : Oper} (ho : ops[j]? = some o) {g : Nat} {want : Bool} (hg : o.guard = some (g, want)) : g < j ∧ bit (natAt ms j) g = true := by
  have h := p.op j o ho
  unfold opOk at h
  rw [hg] at h
  simp only [Bool.and_eq_true] at h
  exact ⟨Nat.le_of_ble_eq_true h.1.2.1, h.1.2.2⟩
end Go.Proofs.YtjdkfdhfodmbeaaDoor.Ax
