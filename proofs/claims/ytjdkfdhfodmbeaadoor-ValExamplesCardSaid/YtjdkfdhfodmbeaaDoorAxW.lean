/- An executor of closed runs: drawn regions (1): the walk of a schedule. -/
import Derived.Test.YtjdkfdhfodmbeaaDoorAxV
import Derived.Orders
namespace Go.Proofs.YtjdkfdhfodmbeaaDoor.Ax
open Go
variable {P : Program} {G : Nat}

/-- The empty memory beside any world. -/
theorem ctx_empty (w : World) : CtxA P 0 ⟨.leaf, 0, [], [], 0⟩ ⟨fun _ => False, fun _ => 0, fun _ => 0, fun _ => 0, fun _ => 0⟩ w := by
  have hv : ∀ n o, Hp.vis ⟨.leaf, 0, [], [], 0⟩ n = some o → False := fun n o h => by
    have := (Hp.vis_some h).2
    cases this
  refine ⟨⟨fun n o h => (hv n o h).elim, fun n m o o' h => (hv n o h).elim, fun n o h => (by cases h), Nat.le_refl _, fun g hg => absurd hg (Nat.not_lt_zero g)⟩, fun n _ h => h⟩

/-- How many operations are not yet listed. -/
def todoN (ops : Array Oper) (listed : Array Bool) : Nat := (List.range ops.size).countP fun i => !listed.getD i true

theorem mem_ready' {ops : Array Oper} {listed : Array Bool} {i : Nat} (h : i ∈ Region.ready .any ops listed) :
    i < ops.size ∧ listed.getD i true = false ∧ ∃ o, ops[i]? = some o ∧ ∀ e ∈ o.after, Region.binds .any e = true → listed.getD e.on false = true := by
  unfold Region.ready at h
  rw [List.mem_filter] at h
  obtain ⟨h1, h2⟩ := h
  have hi : i < ops.size := by simpa using h1
  refine ⟨hi, ?_, ops[i], by simp [hi], ?_⟩
  · cases hl : listed.getD i true with
    | false => rfl
    | true => rw [hl] at h2; simp at h2
  · intro e he hb
    have ho : ops[i]? = some ops[i] := by simp [hi]
    rw [ho] at h2
    simp only [Option.map_some, Option.getD_some, Bool.and_eq_true, Array.all_eq_true_iff_forall_mem] at h2
    have := h2.2 e he
    rw [hb] at this
    simpa using this

theorem todoN_set {ops : Array Oper} {listed : Array Bool} {i : Nat} (hi : i < ops.size) (hl : listed.getD i true = false) : todoN ops (listed.setIfInBounds i true) + 1 ≤ todoN ops listed := by
  have hsz : i < listed.size := by
    rw [Array.getD_eq_getD_getElem?] at hl
    cases h : listed[i]? with
    | none => rw [h] at hl; cases hl
    | some b => exact (Array.getElem?_eq_some_iff.1 h).1
  have hset : ∀ j, (listed.setIfInBounds i true).getD j true = if j = i then true else listed.getD j true := by
    intro j
    simp only [Array.getD_eq_getD_getElem?, Array.getElem?_setIfInBounds]
    by_cases e : i = j
    · subst e; simp [hsz]
    · rw [if_neg e, if_neg (fun h => e h.symm)]
  unfold todoN
  have gen : ∀ l : List Nat, i ∈ l → (l.countP fun j => !(listed.setIfInBounds i true).getD j true) + 1 ≤ l.countP fun j => !listed.getD j true := by
    intro l
    have mono : ∀ l : List Nat, (l.countP fun j => !(listed.setIfInBounds i true).getD j true) ≤ l.countP fun j => !listed.getD j true := by
      intro l
      apply List.countP_mono_left
      intro j _ hj
      rw [hset] at hj
      by_cases e : j = i
      · rw [if_pos e] at hj; cases hj
      · rw [if_neg e] at hj; exact hj
    induction l with
    | nil => intro h; cases h
    | cons x l ih =>
      intro h
      rw [List.countP_cons, List.countP_cons]
      by_cases e : x = i
      · subst e
        have h1 : (!(listed.setIfInBounds x true).getD x true) = false := by rw [hset, if_pos rfl]; rfl
        have h2 : (!listed.getD x true) = true := by rw [hl]; rfl
        rw [h1, h2]
        have := mono l
        simp only [Bool.false_eq_true, if_false, if_true]
        omega
      · have hm : i ∈ l := by
          cases h with
          | head => exact absurd rfl e
          | tail _ h => exact h
        have := ih hm
        have h1 : (!(listed.setIfInBounds i true).getD x true) = (!listed.getD x true) := by rw [hset, if_neg e]
        rw [h1]
        omega
  exact gen _ (by simpa using hi)

theorem ready_none {ops : Array Oper} {listed : Array Bool} (h : todoN ops listed = 0) : Region.ready .any ops listed = [] := by
  cases hr : Region.ready .any ops listed with
  | nil => rfl
  | cons i l =>
    obtain ⟨h1, h2, _⟩ := mem_ready' (ops := ops) (listed := listed) (i := i) (by rw [hr]; exact .head _)
    have := todoN_set h1 h2
    omega

/-- Nothing is ready and every edge leads back: everything is listed. -/
theorem all_listed {ops : Array Oper} {listed : Array Bool} (hsz : listed.size = ops.size) (hback : ∀ i o, ops[i]? = some o → ∀ e ∈ o.after, Region.binds .any e = true → e.on < i)
    (h : Region.ready .any ops listed = []) : ∀ i, i < ops.size → listed.getD i false = true := by
  intro i
  induction i using Nat.strongRecOn with
  | ind i ih =>
    intro hi
    cases hl : listed.getD i false with
    | true => rfl
    | false =>
      exfalso
      have hl' : listed.getD i true = false := by
        rw [Array.getD_eq_getD_getElem?] at hl ⊢
        have : listed[i]? = some listed[i] := by simp [hsz, hi]
        rw [this] at hl ⊢
        exact hl
      have : i ∈ Region.ready .any ops listed := by
        unfold Region.ready
        rw [List.mem_filter]
        refine ⟨by simpa using hi, ?_⟩
        have ho : ops[i]? = some ops[i] := by simp [hi]
        rw [ho, hl']
        simp only [Option.map_some, Option.getD_some, Bool.not_false, Bool.true_and, Array.all_eq_true_iff_forall_mem]
        intro e he
        cases hb : Region.binds .any e with
        | false => rfl
        | true =>
          have hlt := hback i _ ho e he hb
          simp [ih e.on hlt (by omega)]
      rw [h] at this
      cases this

/-- A drawn region's schedule, walked: I is what holds when the operations of a set are done. -/
theorem sched_walk {ops : Array Oper} {b : Frame} {cs : List Frame} {k' : List Item} {I : Array Bool → Act → World → Prop}
    (hstep : ∀ listed a w i rest, I listed a w → i ∈ Region.ready .any ops listed →
      ∃ a1 w1, Steps P (lone (b.atR a (.inRegion ops (i :: rest) :: k')) cs w) (lone (b.atR a1 (.inRegion ops rest :: k')) cs w1) ∧ I (listed.setIfInBounds i true) a1 w1) :
    ∀ (fuel t : Nat) (listed : Array Bool) (a : Act) (w : World), I listed a w → todoN ops listed ≤ fuel →
    ∃ listed1 a1 w1, Steps P (lone (b.atR a (.inRegion ops (Region.linearise.go .any ops fuel t listed []) :: k')) cs w) (lone (b.atR a1 k') cs w1) ∧ I listed1 a1 w1 ∧ Region.ready .any ops listed1 = [] := by
  intro fuel
  induction fuel with
  | zero =>
    intro t listed a w hI hn
    exact ⟨listed, a, w, by simpa [Region.linearise.go] using Steps.one stepR_region_end, hI, ready_none (by omega)⟩
  | succ fuel ih =>
    intro t listed a w hI hn
    simp only [Region.linearise.go]
    change ∃ listed1 a1 w1, Steps P (lone (b.atR a (.inRegion ops (match (Region.ready .any ops listed)[t % (Region.ready .any ops listed).length]? with
      | some i => Region.linearise.go .any ops fuel (t / (Region.ready .any ops listed).length) (listed.setIfInBounds i true) [i]
      | none => [].reverse) :: k')) cs w) (lone (b.atR a1 k') cs w1) ∧ I listed1 a1 w1 ∧ Region.ready .any ops listed1 = []
    cases hi : (Region.ready .any ops listed)[t % (Region.ready .any ops listed).length]? with
    | none =>
      have hnil : Region.ready .any ops listed = [] := by
        cases hr : Region.ready .any ops listed with
        | nil => rfl
        | cons x xs =>
          rw [hr] at hi
          have hlt : t % (x :: xs).length < (x :: xs).length := Nat.mod_lt _ (by simp)
          simp at hi
          simp at hlt
          omega
      exact ⟨listed, a, w, by simpa using Steps.one stepR_region_end, hI, hnil⟩
    | some i =>
      simp only []
      rw [linearise_go_acc, List.reverse_singleton, List.singleton_append]
      have hm := List.mem_of_getElem? hi
      obtain ⟨a1, w1, s1, hI1⟩ := hstep listed a w i _ hI hm
      obtain ⟨g1, g2, _⟩ := mem_ready' hm
      have := todoN_set g1 g2
      obtain ⟨l2, a2, w2, s2, hI2, hr⟩ := ih _ _ a1 w1 hI1 (by omega)
      exact ⟨l2, a2, w2, s1.trans s2, hI2, hr⟩
end Go.Proofs.YtjdkfdhfodmbeaaDoor.Ax
