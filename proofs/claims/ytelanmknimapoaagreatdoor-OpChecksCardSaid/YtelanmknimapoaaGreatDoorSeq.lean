/- A region that draws its order, walked once in the text's order: every operation leaves a value that hangs on nothing but a condition on the world, which all of them keep. -/
import Derived.OrdersHeld
import Derived.WalkKit
namespace Go.Proofs.YtelanmknimapoaaGreatDoor
open Go
section
variable {P : Program} {ops : Array Oper} {Q : Exit → Act → World → Prop} {md : Region.Mode} {S : World → Prop}
/-- Nothing else than the wanted end. -/
def NoWay : Exit → Act → World → Prop := fun _ _ _ => False
def Yld (P : Program) (ops : Array Oper) (S : World → Prop) (o : Oper) (v : Value) (a : Act) : Prop :=
  (Region.wanted o (yielded ops a.tmps) = true ∧ ∀ w, S w → o.wp P a w (fun a' w' => a' = a.put o.dst v ∧ S w') NoWay) ∨
  (Region.wanted o (yielded ops a.tmps) = false ∧ v = undef)
theorem upon_way {o : Oper} {a a2 : Act} {K K' : Act → World → Prop} {r : Result Next} (h : o.upon P a K NoWay r)
    (hK : ∀ u w', K (a.put o.dst u) w' → K' (a2.put o.dst u) w')
    (hD : ∀ d w', ¬ K ({ a with defers := d :: a.defers }.put o.dst undef) w') : o.upon P a2 K' Q r := by
  cases r with
  | ok n w' =>
    cases n <;> simp only [Oper.upon] at h ⊢
    case value u => exact hK _ _ h
    case skip => exact hK _ _ h
    case defer d => exact absurd h (hD d _)
    case enter f args =>
      refine Calls.mono h fun e w'' he => ?_
      cases e with
      | returned u => exact hK _ _ he
      | panicked c => exact he.elim
      | outgrown => obtain ⟨_, _, hx⟩ := he; exact hx.elim
    case row row args => exact Rows.mono h fun u w'' he => hK _ _ he
  | halt x w' =>
    cases x <;> simp only [Oper.upon] at h ⊢
    case panic u => exact h.elim
theorem put_size (a : Act) (d : Option Tmp) (v : Value) : (a.put d v).tmps.size = a.tmps.size := by
  cases d <;> simp [Act.put]
theorem put_def (a : Act) (d : Option Tmp) (v : Value) : (a.put d v).defers = a.defers := by
  cases d <;> rfl
theorem put_inj {a b : Act} {x : Option Tmp} {u v : Value} (hz : b.tmps.size = a.tmps.size) (h : a.put x u = a.put x v) : b.put x u = b.put x v := by
  cases x with
  | none => rfl
  | some d =>
    by_cases hd : d < a.tmps.size
    · have h1 : (a.put (some d) u).tmps[d]? = (a.put (some d) v).tmps[d]? := by rw [h]
      simp [Act.put, hd] at h1
      rw [h1]
    · have h2 : b.tmps.size ≤ d := by rw [hz]; exact Nat.le_of_not_lt hd
      simp only [Act.put, Array.setIfInBounds_eq_of_size_le h2]
theorem no_defer {a : Act} {o : Oper} {v : Value} (d : Deferred) (w : World) : ¬ (({ a with defers := d :: a.defers } : Act).put o.dst undef = a.put o.dst v ∧ S w) := by
  intro ⟨h, _⟩
  have h1 := congrArg (fun x => x.defers.length) h
  simp [put_def] at h1
theorem Yld.other {o : Oper} {v : Value} {a b : Act} (hz : b.tmps.size = a.tmps.size) (he : execOp b.eval o = execOp a.eval o)
    (hw : Region.wanted o (yielded ops b.tmps) = Region.wanted o (yielded ops a.tmps)) (h : Yld P ops S o v a) : Yld P ops S o v b := by
  unfold Yld at *
  rw [hw]
  refine h.imp (fun ⟨h1, h2⟩ => ⟨h1, fun w hS => ?_⟩) id
  have h3 := h2 w hS
  unfold Oper.wp at *
  rw [he]
  exact upon_way h3 (fun u w' ⟨h4, h5⟩ => ⟨put_inj hz h4, h5⟩) (fun d w' => no_defer d w')
theorem Yld.wpOp {i : Nat} {o : Oper} {v : Value} {a : Act} {w : World} (hi : ops[i]? = some o) (h : Yld P ops S o v a) (hS : S w)
    {K : Act → World → Prop} (hK : ∀ w', S w' → K (a.put o.dst v) w') : wpOp P ops Q i K a w := by
  unfold Go.wpOp
  simp only [hi]
  rcases h with ⟨hw, hv⟩ | ⟨hw, rfl⟩
  · simp only [hw, if_true]
    refine .inl ?_
    have h3 := hv w hS
    unfold Oper.wp at *
    exact upon_way h3 (fun u w' ⟨h4, h5⟩ => by rw [h4]; exact hK w' h5) (fun d w' => no_defer d w')
  · simp only [hw, Bool.false_eq_true, if_false]; exact hK w hS
/-- What is left to be done, in the text's order. -/
def SeqS (P : Program) (ops : Array Oper) (S : World → Prop) (Q : Exit → Act → World → Prop) : List Nat → Act → Prop
  | [], a => ∀ w, S w → Q .normal a w
  | i :: l, a => ∃ o v, ops[i]? = some o ∧ Yld P ops S o v a ∧ SeqS P ops S Q l (a.put o.dst v)
def okPair (md : Region.Mode) (ops : Array Oper) (i j : Nat) : Bool :=
  match ops[i]?, ops[j]? with
  | some oi, some oj => oj.after.any (fun e => Region.binds md e && e.on == i) || oi.apart ops oj
  | _, _ => false
def okAll (md : Region.Mode) (ops : Array Oper) : Bool :=
  (List.range ops.size).all fun j => ((List.range j).all fun i => okPair md ops i j) && ((ops[j]?).map (·.after.all fun e => !Region.binds md e || e.on < j)).getD false
theorem SeqS.front (hs : Region.noSelect ops = true) {i : Nat} : ∀ (pre : List Nat) (post : List Nat) (a : Act),
    (∀ k ∈ pre, ∀ ok oi, ops[k]? = some ok → ops[i]? = some oi → ok.apart ops oi = true) → SeqS P ops S Q (pre ++ i :: post) a → SeqS P ops S Q (i :: (pre ++ post)) a := by
  intro pre
  induction pre with
  | nil => intro post a _ h; exact h
  | cons k pre ih =>
    intro post a hap h
    obtain ⟨ok, vk, hk, hyk, hrest⟩ := h
    obtain ⟨oi, vi, hi, hyi, hrest2⟩ := ih post _ (fun k' hk' => hap k' (List.mem_cons_of_mem _ hk')) hrest
    have hp := hap k (List.mem_cons_self ..) ok oi hk hi
    obtain ⟨h1, h2, h3⟩ := Oper.apart_spec hp
    have nsel := Region.noSelect_spec hs
    refine ⟨oi, vi, hi, ?_, ok, vk, hk, ?_, ?_⟩
    · exact Yld.other (put_size ..).symm (execOp_put oi (fun cs b => nsel i oi cs b hi) a ok.dst vk h1).symm (wanted_put oi a ok.dst vk h1).symm hyi
    · exact Yld.other (put_size ..) (execOp_put ok (fun cs b => nsel k ok cs b hk) a oi.dst vi h3) (wanted_put ok a oi.dst vi h3) hyk
    · rw [← Act.put_comm a vk vi h2]; exact hrest2
theorem SeqS.any (hs : Region.noSelect ops = true) (hc : okAll md ops = true) : ∀ (n : Nat) (l : List Nat) (listed : Array Bool) (a : Act) (w : World),
    l.length = n → l.Pairwise (· < ·) → (∀ i, i ∈ l ↔ (i < ops.size ∧ listed.getD i true = false)) → listed.size = ops.size → SeqS P ops S Q l a → S w → wpAny P md ops Q n listed a w := by
  have hall : ∀ j, j < ops.size → (∀ i, i < j → okPair md ops i j = true) ∧ (∀ o, ops[j]? = some o → ∀ e ∈ o.after, Region.binds md e = true → e.on < j) := by
    intro j hj
    have h1 := List.all_eq_true.1 hc j (List.mem_range.2 hj)
    rw [Bool.and_eq_true] at h1
    refine ⟨fun i hi => List.all_eq_true.1 h1.1 i (List.mem_range.2 hi), fun o ho e he hb => ?_⟩
    have h2 := h1.2
    rw [ho] at h2
    simp only [Option.map_some, Option.getD_some] at h2
    have h3 := Array.all_eq_true_iff_forall_mem.1 h2 e he
    simp only [hb, Bool.not_true, Bool.false_or, decide_eq_true_eq] at h3
    exact h3
  have gf : ∀ (L : Array Bool) (i : Nat), L.size = ops.size → i < ops.size → (L.getD i false = true ↔ ¬ L.getD i true = false) := by
    intro L i hL hi
    have : i < L.size := by omega
    simp [this]
  intro n
  induction n with
  | zero =>
    intro l listed a w hn hp hm hz h hS
    have hl : l = [] := List.length_eq_zero_iff.1 hn
    subst hl
    refine ⟨?_, h w hS⟩
    apply List.eq_nil_iff_forall_not_mem.2
    intro i hi
    obtain ⟨g1, o, g2, _⟩ := mem_ready.1 hi
    exact absurd ((hm i).2 ⟨(Array.getElem?_eq_some_iff.1 g2).1, g1⟩) (by simp)
  | succ n ih =>
    intro l listed a w hn hp hm hz h hS
    refine ⟨fun hr => ?_, fun i hi => ?_⟩
    · exfalso
      obtain ⟨i, l', rfl⟩ : ∃ i l', l = i :: l' := by
        cases l with
        | nil => simp at hn
        | cons i l' => exact ⟨i, l', rfl⟩
      obtain ⟨hlt, hun⟩ := (hm i).1 (List.mem_cons_self ..)
      have : i ∈ Region.ready md ops listed := mem_ready.2 ⟨hun, ops[i], Array.getElem?_eq_getElem hlt, fun e he hb => by
        have h1 := (hall i hlt).2 _ (Array.getElem?_eq_getElem hlt) e he hb
        rw [gf listed e.on hz (by omega)]
        intro hc'
        have h2 := (hm e.on).2 ⟨by omega, hc'⟩
        rcases List.mem_cons.1 h2 with h3 | h3
        · omega
        · have := List.rel_of_pairwise_cons hp h3; omega⟩
      rw [hr] at this
      cases this
    · obtain ⟨g1, oi, g2, g3⟩ := mem_ready.1 hi
      have hlt : i < ops.size := (Array.getElem?_eq_some_iff.1 g2).1
      have him := (hm i).2 ⟨hlt, g1⟩
      obtain ⟨pre, post, rfl⟩ := List.append_of_mem him
      have hpp := List.pairwise_append.1 hp
      have hpc := List.pairwise_cons.1 hpp.2.1
      have hfront := SeqS.front hs pre post a (fun k hk ok oi' hok hoi' => by
        have e1 : oi' = oi := Option.some.inj (hoi'.symm.trans g2)
        subst e1
        have hki : k < i := hpp.2.2 k hk i (List.mem_cons_self ..)
        have h1 := (hall i hlt).1 k hki
        unfold okPair at h1
        simp only [hok, g2, Bool.or_eq_true] at h1
        rcases h1 with h1 | h1
        · exfalso
          obtain ⟨e, he, hb⟩ := Array.any_eq_true'.1 h1
          simp only [Bool.and_eq_true, beq_iff_eq] at hb
          have h2 := g3 e he hb.1
          rw [hb.2, gf listed k hz (by omega)] at h2
          exact h2 ((hm k).1 (List.mem_append_left _ hk)).2
        · exact h1) h
      obtain ⟨o', v, ho', hy, hrest⟩ := hfront
      refine Yld.wpOp ho' hy hS fun w' hS' => ?_
      refine ih (pre ++ post) _ _ w' (by simp at hn ⊢; omega) ?_ ?_ (by simp [hz]) hrest hS'
      · exact List.pairwise_append.2 ⟨hpp.1, hpc.2, fun x hx y hy => hpp.2.2 x hx y (List.mem_cons_of_mem _ hy)⟩
      · intro j
        by_cases hji : i = j
        · subst hji
          constructor
          · intro hj
            exfalso
            rcases List.mem_append.1 hj with hj | hj
            · have := hpp.2.2 i hj i (List.mem_cons_self ..); omega
            · have := hpc.1 i hj; omega
          · rintro ⟨_, hj⟩
            have : i < listed.size := by omega
            simp [this] at hj
        · rw [getD_set_ne true hji, ← hm j]
          simp only [List.mem_append, List.mem_cons]
          constructor
          · rintro (h | h)
            · exact .inl h
            · exact .inr (.inr h)
          · rintro (h | h | h)
            · exact .inl h
            · exact absurd h.symm hji
            · exact .inr h
end
end Go.Proofs.YtelanmknimapoaaGreatDoor
