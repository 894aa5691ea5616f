/- A region that draws its order, in which a call panics: walked once, in the text's order; what waits for that call is never come to. -/
import Derived.Test.YtelanmknimapoaaGreatDoorMgd
namespace Go.Proofs.YtelanmknimapoaaGreatDoor
open Go
section
variable {P : Program} {ops : Array Oper} {Q : Exit → Act → World → Prop} {md : Region.Mode} {S : World → Prop} {c : List PanicEntry}
def Die (P : Program) (ops : Array Oper) (S : World → Prop) (c : List PanicEntry) (o : Oper) (a : Act) : Prop :=
 Region.wanted o (yielded ops a.tmps) = true ∧ ∀ w, S w → ∃ f args, (execOp a.eval o).run P w = .ok (.enter f args) w ∧ Calls P f args w fun e w' => e = .panicked c ∧ S w'
def waits (md : Region.Mode) (B : List Nat) (o : Oper) : Bool := o.after.any fun e => Region.binds md e && B.contains e.on
def SeqK (P : Program) (ops : Array Oper) (S : World → Prop) (md : Region.Mode) (c : List PanicEntry) : List Nat → List Nat → Act → Prop
 | [], B, _ => B ≠ []
 | i :: l, B, a => ∃ o, ops[i]? = some o ∧ ((∃ v, Yld P ops S o v a ∧ SeqK P ops S md c l B (a.put o.dst v)) ∨ (Die P ops S c o a ∧ SeqK P ops S md c l (i :: B) a) ∨ (waits md B o = true ∧ SeqK P ops S md c l (i :: B) a))
theorem Die.other {o : Oper} {a b : Act} (he : execOp b.eval o = execOp a.eval o)
 (hw : Region.wanted o (yielded ops b.tmps) = Region.wanted o (yielded ops a.tmps)) (h : Die P ops S c o a) : Die P ops S c o b := by
 refine ⟨hw.trans h.1, fun w hS => ?_⟩
 obtain ⟨f, args, h1, h2⟩ := h.2 w hS
 exact ⟨f, args, by rw [he]; exact h1, h2⟩
theorem zxr {B : List Nat} {o : Oper} {R : Nat → Prop} (h : ∀ e ∈ o.after, Region.binds md e = true → ¬ R e.on) (hB : ∀ k ∈ B, R k) : waits md B o = false := by
 cases hw : waits md B o with
 | false => rfl
 | true =>
  exfalso
  obtain ⟨e, he, hb⟩ := Array.any_eq_true'.1 hw
  simp only [Bool.and_eq_true, List.contains_iff_mem] at hb
  exact h e he hb.1 (hB _ hb.2)
theorem SeqK.front (hs : Region.noSelect ops = true) {i : Nat} {oi : Oper} (hi : ops[i]? = some oi) {R : Nat → Prop} (hn : ∀ e ∈ oi.after, Region.binds md e = true → ¬ R e.on) : ∀ (pre post B : List Nat) (a : Act), (∀ k ∈ B, R k) → (∀ k ∈ pre, R k) →
 (∀ k ∈ pre, ∀ ok, ops[k]? = some ok → ok.apart ops oi = true) → SeqK P ops S md c (pre ++ i :: post) B a → (∃ v, Yld P ops S oi v a ∧ SeqK P ops S md c (pre ++ post) B (a.put oi.dst v)) ∨ Die P ops S c oi a := by
 intro pre
 induction pre with
 | nil =>
  intro post B a hB _ _ h
  obtain ⟨o, ho, h⟩ := h
  obtain rfl := Option.some.inj (ho.symm.trans hi)
  rcases h with h | h | h
  · exact .inl h
  · exact .inr h.1
  · rw [zxr hn hB] at h; cases h.1
 | cons k pre ih =>
  intro post B a hB hp hap h
  obtain ⟨ok, hk, h⟩ := h
  have hpx := hap k (List.mem_cons_self ..) ok hk
  obtain ⟨h1, h2, h3⟩ := Oper.apart_spec hpx
  have nsel := Region.noSelect_spec hs
  have hp' : ∀ k ∈ pre, R k := fun k' hk' => hp k' (List.mem_cons_of_mem _ hk')
  have hap' : ∀ k ∈ pre, ∀ ok, ops[k]? = some ok → ok.apart ops oi = true := fun k' hk' => hap k' (List.mem_cons_of_mem _ hk')
  have hkB : ∀ k' ∈ k :: B, R k' := fun k' hk' => by
   rcases List.mem_cons.1 hk' with rfl | hk'
   · exact hp _ (List.mem_cons_self ..)
   · exact hB k' hk'
  rcases h with ⟨vk, hyk, hrest⟩ | ⟨hd, hrest⟩ | ⟨hw, hrest⟩
  · rcases ih post B _ hB hp' hap' hrest with ⟨vi, hyi, hr2⟩ | hdi
    · refine .inl ⟨vi, ?_, ok, hk, .inl ⟨vk, ?_, ?_⟩⟩
      · exact Yld.other (put_size ..).symm (execOp_put oi (fun cs b => nsel i oi cs b hi) a ok.dst vk h1).symm (wanted_put oi a ok.dst vk h1).symm hyi
      · exact Yld.other (put_size ..) (execOp_put ok (fun cs b => nsel k ok cs b hk) a oi.dst vi h3) (wanted_put ok a oi.dst vi h3) hyk
      · rw [← Act.put_comm a vk vi h2]; exact hr2
    · exact .inr (Die.other (execOp_put oi (fun cs b => nsel i oi cs b hi) a ok.dst vk h1).symm (wanted_put oi a ok.dst vk h1).symm hdi)
  · rcases ih post (k :: B) _ hkB hp' hap' hrest with ⟨vi, hyi, hr2⟩ | hdi
    · exact .inl ⟨vi, hyi, ok, hk, .inr (.inl ⟨Die.other (execOp_put ok (fun cs b => nsel k ok cs b hk) a oi.dst vi h3) (wanted_put ok a oi.dst vi h3) hd, hr2⟩)⟩
    · exact .inr hdi
  · rcases ih post (k :: B) _ hkB hp' hap' hrest with ⟨vi, hyi, hr2⟩ | hdi
    · exact .inl ⟨vi, hyi, ok, hk, .inr (.inr ⟨hw, hr2⟩)⟩
    · exact .inr hdi
theorem SeqK.any (hs : Region.noSelect ops = true) (hc : ydc md ops = true) {ds : List Deferred} (hQ : ∀ a w, a.defers = ds → S w → Q (.panic c) a w) : ∀ (n : Nat) (l : List Nat) (listed : Array Bool) (a : Act) (w : World), a.defers = ds →
 l.length = n → l.Pairwise (· < ·) → (∀ i, i ∈ l ↔ (i < ops.size ∧ listed.getD i true = false)) → listed.size = ops.size → SeqK P ops S md c l [] a → S w → wpAny P md ops Q n listed a w := by
 have hall : ∀ j, j < ops.size → (∀ i, i < j → znn md ops i j = true) ∧ (∀ o, ops[j]? = some o → ∀ e ∈ o.after, Region.binds md e = true → e.on < j) := by
  intro j hj
  have h1 := List.all_eq_true.1 hc j (List.mem_range.2 hj)
  rw [Bool.and_eq_true] at h1
  refine ⟨fun i hi => List.all_eq_true.1 h1.1 i (List.mem_range.2 hi), fun o ho e he hb => ?_⟩
  have h2 := h1.2
  rw [ho] at h2
  simp only [Option.map_some, Option.getD_some] at h2
  have h3 := Array.all_eq_true_iff_forall_mem.1 h2 e he
  simp only [hb, Bool.not_true, Bool.false_or, decide_eq_true_eq] at h3
  exact h3
 have gf : ∀ (L : Array Bool) (i : Nat), L.size = ops.size → i < ops.size → (L.getD i false = true ↔ ¬ L.getD i true = false) := by
  intro L i hL hi
  have : i < L.size := by omega
  simp [this]
 intro n
 induction n with
 | zero =>
  intro l listed a w had hn hp hm hz h hS
  have hl : l = [] := List.length_eq_zero_iff.1 hn
  subst hl
  exact absurd rfl h
 | succ n ih =>
  intro l listed a w had hn hp hm hz h hS
  refine ⟨fun hr => ?_, fun i hi => ?_⟩
  · exfalso
    obtain ⟨i, l', rfl⟩ : ∃ i l', l = i :: l' := by
     cases l with
     | nil => simp at hn
     | cons i l' => exact ⟨i, l', rfl⟩
    obtain ⟨hlt, hun⟩ := (hm i).1 (List.mem_cons_self ..)
    have : i ∈ Region.ready md ops listed := mem_ready.2 ⟨hun, ops[i], Array.getElem?_eq_getElem hlt, fun e he hb => by
     have h1 := (hall i hlt).2 _ (Array.getElem?_eq_getElem hlt) e he hb
     rw [gf listed e.on hz (by omega)]
     intro hc'
     have h2 := (hm e.on).2 ⟨by omega, hc'⟩
     rcases List.mem_cons.1 h2 with h3 | h3
     · omega
     · have := List.rel_of_pairwise_cons hp h3; omega⟩
    rw [hr] at this
    cases this
  · obtain ⟨g1, oi, g2, g3⟩ := mem_ready.1 hi
    have hlt : i < ops.size := (Array.getElem?_eq_some_iff.1 g2).1
    have him := (hm i).2 ⟨hlt, g1⟩
    obtain ⟨pre, post, rfl⟩ := List.append_of_mem him
    have hpp := List.pairwise_append.1 hp
    have hpc := List.pairwise_cons.1 hpp.2.1
    have hfront := SeqK.front hs g2 (R := fun k => k < ops.size ∧ listed.getD k true = false) (fun e he hb hR => by
     have h2 := g3 e he hb
     rw [gf listed e.on hz hR.1] at h2
     exact h2 hR.2) pre post [] a (fun k hk => by cases hk) (fun k hk => (hm k).1 (List.mem_append_left _ hk)) (fun k hk ok hok => by
     have hki : k < i := hpp.2.2 k hk i (List.mem_cons_self ..)
     have h1 := (hall i hlt).1 k hki
     unfold znn at h1
     simp only [hok, g2, Bool.or_eq_true] at h1
     rcases h1 with h1 | h1
     · exfalso
       obtain ⟨e, he, hb⟩ := Array.any_eq_true'.1 h1
       simp only [Bool.and_eq_true, beq_iff_eq] at hb
       have h2 := g3 e he hb.1
       rw [hb.2, gf listed k hz (by omega)] at h2
       exact h2 ((hm k).1 (List.mem_append_left _ hk)).2
     · exact h1) h
    rcases hfront with ⟨v, hy, hrest⟩ | ⟨hw, hd⟩
    · refine Yld.wpOp g2 hy hS fun w' hS' => ?_
      refine ih (pre ++ post) _ _ w' ((zi3 ..).trans had) (by simp at hn ⊢; omega) ?_ ?_ (by simp [hz]) hrest hS'
      · exact List.pairwise_append.2 ⟨hpp.1, hpc.2, fun x hx y hy => hpp.2.2 x hx y (List.mem_cons_of_mem _ hy)⟩
      · intro j
        by_cases hji : i = j
        · subst hji
          constructor
          · intro hj
            exfalso
            rcases List.mem_append.1 hj with hj | hj
            · have := hpp.2.2 i hj i (List.mem_cons_self ..); omega
            · have := hpc.1 i hj; omega
          · rintro ⟨_, hj⟩
            have : i < listed.size := by omega
            simp [this] at hj
        · rw [getD_set_ne true hji, ← hm j]
          simp only [List.mem_append, List.mem_cons]
          constructor
          · rintro (h | h)
            · exact .inl h
            · exact .inr (.inr h)
          · rintro (h | h | h)
            · exact .inl h
            · exact absurd h.symm hji
            · exact .inr h
    · unfold Go.wpOp
      simp only [g2, hw, if_true]
      refine .inl ?_
      obtain ⟨f, args, h1, h2⟩ := hd w hS
      unfold Oper.wp
      rw [h1]
      show Calls P f args w _
      refine h2.mono fun e w' ⟨he, hS'⟩ => ?_
      subst he
      exact hQ _ _ had hS'
def SeqKT (P : Program) (ops : Array Oper) (S : World → Prop) (md : Region.Mode) (c : List PanicEntry) : List Oper → Nat → List Nat → Act → Prop
 | [], _, B, _ => B ≠ []
 | o :: l, m, B, a => (∃ v, Yld P ops S o v a ∧ SeqKT P ops S md c l (m + 1) B (a.put o.dst v)) ∨ (Die P ops S c o a ∧ SeqKT P ops S md c l (m + 1) (m :: B) a) ∨ (waits md B o = true ∧ SeqKT P ops S md c l (m + 1) (m :: B) a)
theorem SeqKT.seqK : ∀ (n m : Nat) (B : List Nat) (a : Act), m + n = ops.size → SeqKT P ops S md c (ops.toList.drop m) m B a → SeqK P ops S md c (List.range' m n) B a := by
 intro n
 induction n with
 | zero =>
  intro m B a hm h
  rw [List.drop_of_length_le (by simp; omega)] at h
  exact h
 | succ n ih =>
  intro m B a hm h
  have hlt : m < ops.size := by omega
  rw [List.drop_eq_getElem_cons (by simpa using hlt)] at h
  rw [List.range'_succ]
  refine ⟨ops[m], Array.getElem?_eq_getElem hlt, ?_⟩
  rcases h with ⟨v, hy, hr⟩ | ⟨hd, hr⟩ | ⟨hw, hr⟩
  · exact .inl ⟨v, by simpa using hy, ih (m + 1) _ _ (by omega) (by simpa using hr)⟩
  · exact .inr (.inl ⟨by simpa using hd, ih (m + 1) _ _ (by omega) (by simpa using hr)⟩)
  · exact .inr (.inr ⟨by simpa using hw, ih (m + 1) _ _ (by omega) (by simpa using hr)⟩)
theorem zcd {id : Nat} {a : Act} {w : World} (S : World → Prop) (c : List PanicEntry) (hm : P.follows Departure.mixedOrders = true) (hs : Region.noSelect ops = true) (hc : ydc .any ops = true) (hQ : ∀ a' w, a'.defers = a.defers → S w → Q (.panic c) a' w)
 (hS : S { w with drawn := w.drawn + 1 }) (h : SeqKT P ops S .any c ops.toList 0 [] a) : (Code.region id ops true).wp P Q a w :=
 wp_region_any hm (SeqK.any hs hc hQ ops.size (List.range ops.size) _ a _ rfl (by simp) List.pairwise_lt_range (fun i => by
  rw [List.mem_range]
  constructor
  · intro h; exact ⟨h, by simp [h]⟩
  · exact fun h => h.1) (by simp) (by rw [List.range_eq_range']; exact SeqKT.seqK ops.size 0 [] a (by omega) (by simpa using h)) hS)
theorem za7 {l : List Oper} {m : Nat} {B : List Nat} {a : Act} {o : Oper} {v : Value} (hw : Region.wanted o (yielded ops a.tmps) = true)
 (h : ∀ w, S w → (execOp a.eval o).run P w = .ok (.value v) w) (hr : SeqKT P ops S md c l (m + 1) B (a.put o.dst v)) : SeqKT P ops S md c (o :: l) m B a :=
 .inl ⟨v, .inl ⟨hw, fun w hS => by unfold Oper.wp; rw [h w hS]; exact ⟨rfl, hS⟩⟩, hr⟩
theorem zk5 {l : List Oper} {m : Nat} {B : List Nat} {a : Act} {o : Oper} {f : FuncId} {args : Array Value} (v : Value) (hw : Region.wanted o (yielded ops a.tmps) = true)
 (h : ∀ w, S w → (execOp a.eval o).run P w = .ok (.enter f args) w) (hc : ∀ w, S w → Calls P f args w fun e w' => e = .returned v ∧ S w') (hr : SeqKT P ops S md c l (m + 1) B (a.put o.dst v)) : SeqKT P ops S md c (o :: l) m B a :=
 .inl ⟨v, .inl ⟨hw, fun w hS => by unfold Oper.wp; rw [h w hS]; exact (hc w hS).mono (fun e w' ⟨h1, h2⟩ => by subst h1; exact ⟨rfl, h2⟩)⟩, hr⟩
theorem zy8 {l : List Oper} {m : Nat} {B : List Nat} {a : Act} {o : Oper} {f : FuncId} {args : Array Value} (hw : Region.wanted o (yielded ops a.tmps) = true)
 (h : ∀ w, S w → (execOp a.eval o).run P w = .ok (.enter f args) w) (hc : ∀ w, S w → Calls P f args w fun e w' => e = .panicked c ∧ S w') (hr : SeqKT P ops S md c l (m + 1) (m :: B) a) : SeqKT P ops S md c (o :: l) m B a :=
 .inr (.inl ⟨⟨hw, fun w hS => ⟨f, args, h w hS, hc w hS⟩⟩, hr⟩)
theorem zda {l : List Oper} {m : Nat} {B : List Nat} {a : Act} {o : Oper} (hw : waits md B o = true) (hr : SeqKT P ops S md c l (m + 1) (m :: B) a) : SeqKT P ops S md c (o :: l) m B a :=
 .inr (.inr ⟨hw, hr⟩)
theorem zy7 {m : Nat} {B : List Nat} {a : Act} (h : B ≠ []) : SeqKT P ops S md c [] m B a := h
end
end Go.Proofs.YtelanmknimapoaaGreatDoor
