/- Merged: SeqO SeqU. -/
import Derived.Test.YtelanmknimapoaaGreatDoorMgb
import Derived.Laws.AppendOwn
/- A region that draws its order and holds appends and stores to memory of its own: what is known of a value may be eaten by a later operation; each own value has a block of its own. -/
namespace Go.Proofs.YtelanmknimapoaaGreatDoor
open Go Go.RowKit
section
variable {P : Program} {ops : Array Oper} {Q : Exit → Act → World → Prop} {md : Region.Mode}
/-- The region by one condition on all that has come up. -/
theorem wpAny_glob (hd : dstsApart ops = true) (I : (Nat → Bool) → (Nat → Value) → World → Prop) (a0 : Act)
    (hob : ∀ i o vs T w, ops[i]? = some o → T i = false → (∀ e ∈ o.after, Region.binds md e = true → T e.on = true) → I T vs w →
      (Region.wanted o (yielded ops (full ops a0 vs).tmps) = true ∧ o.wp P (full ops a0 vs) w (fun a' w' => ∃ v, a' = (full ops a0 vs).put o.dst v ∧ I (updB T i) (upd vs i v) w') NoWay) ∨
      (Region.wanted o (yielded ops (full ops a0 vs).tmps) = false ∧ I (updB T i) (upd vs i undef) w))
    (hend : ∀ vs T w, (∀ i, i < ops.size → T i = true) → I T vs w → Q .normal (full ops a0 vs) w)
    (hback : ∀ i o, ops[i]? = some o → ∀ e ∈ o.after, Region.binds md e = true → e.on < i) :
    ∀ (n : Nat) (l : List Nat) (listed : Array Bool) (vs : Nat → Value) (w : World), l.length = n → l.Pairwise (· < ·) → (∀ i, i ∈ l ↔ (i < ops.size ∧ listed.getD i true = false)) → listed.size = ops.size →
      I (fun k => listed.getD k false) vs w → wpAny P md ops Q n listed (full ops a0 vs) w := by
  have gf : ∀ (L : Array Bool) (i : Nat), L.size = ops.size → i < ops.size → (L.getD i false = true ↔ ¬ L.getD i true = false) := by
    intro L i hL hi
    have : i < L.size := by omega
    simp [this]
  have hdd : ∀ i j, i < ops.size → j < ops.size → j ≠ i → ∀ d, dstOf ops i = some d → dstOf ops j ≠ some d := by
    intro i j hi hj hne d hdi
    have h1 := List.all_eq_true.1 (List.all_eq_true.1 hd i (List.mem_range.2 hi)) j (List.mem_range.2 hj)
    rw [hdi] at h1
    simp only [Bool.or_eq_true, beq_iff_eq, bne_iff_ne, ne_eq, reduceCtorEq, or_false, hne, false_or] at h1
    exact h1
  intro n
  induction n with
  | zero =>
    intro l listed vs w hn hp hm hz hI
    have hl : l = [] := List.length_eq_zero_iff.1 hn
    subst hl
    have hall : ∀ i, i < ops.size → listed.getD i false = true := fun i hi => (gf listed i hz hi).2 fun hc => absurd ((hm i).2 ⟨hi, hc⟩) (by simp)
    refine ⟨?_, hend vs (fun k => listed.getD k false) w hall hI⟩
    apply List.eq_nil_iff_forall_not_mem.2
    intro i hi
    obtain ⟨g1, o, g2, _⟩ := mem_ready.1 hi
    exact absurd ((hm i).2 ⟨(Array.getElem?_eq_some_iff.1 g2).1, g1⟩) (by simp)
  | succ n ih =>
    intro l listed vs w hn hp hm hz hI
    refine ⟨fun hr => ?_, fun i hi => ?_⟩
    · exfalso
      obtain ⟨i, l', rfl⟩ : ∃ i l', l = i :: l' := by
        cases l with
        | nil => simp at hn
        | cons i l' => exact ⟨i, l', rfl⟩
      obtain ⟨hlt, hun⟩ := (hm i).1 (List.mem_cons_self ..)
      have : i ∈ Region.ready md ops listed := mem_ready.2 ⟨hun, ops[i], Array.getElem?_eq_getElem hlt, fun e he hb => by
        have h1 := hback i _ (Array.getElem?_eq_getElem hlt) e he hb
        rw [gf listed e.on hz (by omega)]
        intro hc'
        have h2 := (hm e.on).2 ⟨by omega, hc'⟩
        rcases List.mem_cons.1 h2 with h3 | h3
        · omega
        · have := List.rel_of_pairwise_cons hp h3; omega⟩
      rw [hr] at this
      cases this
    · obtain ⟨g1, oi, g2, g3⟩ := mem_ready.1 hi
      have hlt : i < ops.size := (Array.getElem?_eq_some_iff.1 g2).1
      obtain ⟨pre, post, rfl⟩ := List.append_of_mem ((hm i).2 ⟨hlt, g1⟩)
      have hpp := List.pairwise_append.1 hp
      have hpc := List.pairwise_cons.1 hpp.2.1
      have hTi : listed.getD i false = false := by
        rw [← Bool.not_eq_true, gf listed i hz hlt]
        exact fun h => h g1
      have hobi := hob i oi vs (fun k => listed.getD k false) w g2 hTi (fun e he hb => g3 e he hb) hI
      have hdst : dstOf ops i = oi.dst := by unfold dstOf; rw [g2]; rfl
      have hset : (fun k => (listed.setIfInBounds i true).getD k false) = updB (fun k => listed.getD k false) i := by
        funext k
        unfold updB
        by_cases hk : k = i
        · subst hk; rw [if_pos rfl]; have : k < listed.size := by omega
          simp [this]
        · rw [if_neg hk, getD_set_ne false (Ne.symm hk)]
      have hnext : ∀ v w', I (updB (fun k => listed.getD k false) i) (upd vs i v) w' → wpAny P md ops Q n (listed.setIfInBounds i true) ((full ops a0 vs).put oi.dst v) w' := by
        intro v w' hI'
        have e1 : (full ops a0 vs).put oi.dst v = full ops a0 (upd vs i v) := by
          rw [← hdst]
          exact (puts_upd vs i v _ a0 List.nodup_range (fun j hj hne => hdd i j hlt (List.mem_range.1 hj) hne) (List.mem_range.2 hlt)).symm
        rw [e1]
        refine ih (pre ++ post) _ _ w' (by simp at hn ⊢; omega) ?_ ?_ (by simp [hz]) (by rw [hset]; exact hI')
        · exact List.pairwise_append.2 ⟨hpp.1, hpc.2, fun x hx y hy => hpp.2.2 x hx y (List.mem_cons_of_mem _ hy)⟩
        · intro j
          by_cases hji : i = j
          · subst hji
            constructor
            · intro hj
              exfalso
              rcases List.mem_append.1 hj with hj | hj
              · have := hpp.2.2 i hj i (List.mem_cons_self ..); omega
              · have := hpc.1 i hj; omega
            · rintro ⟨_, hj⟩
              have : i < listed.size := by omega
              simp [this] at hj
          · rw [getD_set_ne true hji, ← hm j]
            simp only [List.mem_append, List.mem_cons]
            constructor
            · rintro (h | h)
              · exact .inl h
              · exact .inr (.inr h)
            · rintro (h | h | h)
              · exact .inl h
              · exact absurd h.symm hji
              · exact .inr h
      unfold wpOp
      rcases hobi with ⟨hw, hwp⟩ | ⟨hw, hIu⟩
      rotate_left
      · simp only [g2, hw, Bool.false_eq_true, if_false]
        exact hnext undef w hIu
      simp only [g2, hw, if_true]
      refine .inl ?_
      unfold Oper.wp at *
      exact upon_way hwp (fun u w' ⟨v, h4, h5⟩ => by rw [h4]; exact hnext v w' h5)
        (fun d w' ⟨v, h4, _⟩ => by have h1 := congrArg (fun x => x.defers.length) h4; simp [put_def] at h1)
/-- What is said of one operation: the fact on its value while it lives, the block that is its own, the values that it eats, and those that its fact speaks of. -/
structure OSpec where
  F : (Nat → Value) → Value → World → Prop
  blk : (Nat → Value) → Value → Option Nat
  eats : List Nat
  uses : List Nat
def Live (sp : Nat → OSpec) (T : Nat → Bool) (j : Nat) : Prop := T j = true ∧ ∀ k, T k = true → j ∉ (sp k).eats
def InvO (S : World → Prop) (Z : Nat) (sp : Nat → OSpec) (T : Nat → Bool) (vs : Nat → Value) (w : World) : Prop :=
  S w ∧ Z ≤ w.heap.size ∧ (∀ j, Live sp T j → (sp j).F vs (vs j) w) ∧ (∀ j g, Live sp T j → (sp j).blk vs (vs j) = some g → Z ≤ g ∧ g < w.heap.size) ∧
  (∀ i j g, i ≠ j → Live sp T i → Live sp T j → (sp i).blk vs (vs i) = some g → (sp j).blk vs (vs j) ≠ some g)
/-- What an operation leaves. -/
def Leaves (sp : Nat → OSpec) (i : Nat) (vs : Nat → Value) (w : World) (v : Value) (w' : World) : Prop :=
  ∃ G : Option Nat, w.grownBy w' G ∧ (∀ g, G = some g → ∃ j, j ∈ (sp i).eats ∧ (sp j).blk vs (vs j) = some g) ∧ (sp i).F vs v w' ∧
    (∀ g, (sp i).blk vs v = some g → g < w'.heap.size ∧ (w.heap.size ≤ g ∨ ∃ j, j ∈ (sp i).eats ∧ (sp j).blk vs (vs j) = some g))
theorem InvO.next {S : World → Prop} {Z : Nat} {sp : Nat → OSpec} {T : Nat → Bool} {vs : Nat → Value} {w w' : World} {i : Nat} {v : Value}
    (hS : ∀ w w', Below Z w w' → S w → S w')
    (hF : ∀ j vs v w w', (∀ k, k < w.heap.size → (k < Z ∨ (sp j).blk vs v = some k) → w'.heap[k]? = w.heap[k]?) → w.heap.size ≤ w'.heap.size → (sp j).F vs v w → (sp j).F vs v w')
    (hFd : ∀ j vs vs' v w, (∀ k ∈ (sp j).uses, vs k = vs' k) → (sp j).F vs v w → (sp j).F vs' v w) (hBd : ∀ j vs vs' v, (∀ k ∈ (sp j).uses, vs k = vs' k) → (sp j).blk vs v = (sp j).blk vs' v)
    (hu : ∀ j, T j = true ∨ j = i → ∀ k ∈ (sp j).uses, k ≠ i) (he : ∀ j ∈ (sp i).eats, Live sp T j) (hni : i ∉ (sp i).eats) (hi : T i = false)
    (h : InvO S Z sp T vs w) (hl : Leaves sp i vs w v w') : InvO S Z sp (updB T i) (upd vs i v) w' := by
  obtain ⟨h1, h2, h3, h4, h5⟩ := h
  obtain ⟨G, hg, hG, hFi, hB⟩ := hl
  have hsz := hg.size
  have hGZ : ∀ g, G = some g → Z ≤ g ∧ g < w.heap.size := fun g e => by
    obtain ⟨j, hj, hb⟩ := hG g e
    exact h4 j g (he j hj) hb
  have hbel : Below Z w w' := (Below.refl Z w).grown hg h2 (fun k hk => (hGZ k hk).1)
  have hvs : ∀ j, T j = true ∨ j = i → ∀ k ∈ (sp j).uses, vs k = upd vs i v k := fun j hj k hk => by
    have := hu j hj k hk
    unfold upd; rw [if_neg this]
  have hold : ∀ j, j ≠ i → Live sp (updB T i) j → Live sp T j ∧ j ∉ (sp i).eats := by
    intro j hj hl
    refine ⟨⟨?_, fun k hk => hl.2 k ?_⟩, hl.2 i ?_⟩
    · have := hl.1; unfold updB at this; rwa [if_neg hj] at this
    · unfold updB; split <;> simp_all
    · unfold updB; rw [if_pos rfl]
  have hval : ∀ j, j ≠ i → upd vs i v j = vs j := fun j hj => by unfold upd; rw [if_neg hj]
  have hvi : upd vs i v i = v := by unfold upd; rw [if_pos rfl]
  have hblk : ∀ j, T j = true ∨ j = i → ∀ u, (sp j).blk (upd vs i v) u = (sp j).blk vs u := fun j hj u => (hBd j vs (upd vs i v) u (hvs j hj)).symm
  have hfar : ∀ j g, j ≠ i → Live sp (updB T i) j → (sp j).blk vs (vs j) = some g → G ≠ some g := by
    intro j g hj hl hb e
    obtain ⟨l1, l2⟩ := hold j hj hl
    obtain ⟨j', hj', hb'⟩ := hG g e
    by_cases hjj : j = j'
    · subst hjj; exact l2 hj'
    · exact h5 j j' g hjj l1 (he j' hj') hb hb'
  refine ⟨hS _ _ hbel h1, by omega, fun j hl => ?_, fun j g hl hb => ?_, fun p q g hpq hp hq hbp hbq => ?_⟩
  · by_cases hj : j = i
    · subst hj
      rw [hvi]
      exact hFd j vs _ v w' (hvs j (.inr rfl)) hFi
    · obtain ⟨l1, l2⟩ := hold j hj hl
      rw [hval j hj]
      refine hFd j vs _ _ w' (hvs j (.inl l1.1)) (hF j vs (vs j) w w' (fun k hk hkz => ?_) hsz (h3 j l1))
      refine hg.block k hk ?_
      rcases hkz with hkz | hkz
      · intro e; have := (hGZ k e.symm).1; omega
      · exact fun e => hfar j k hj hl hkz e.symm
  · by_cases hj : j = i
    · subst hj
      rw [hvi, hblk j (.inr rfl)] at hb
      obtain ⟨b1, b2⟩ := hB g hb
      refine ⟨?_, b1⟩
      rcases b2 with b2 | ⟨j', hj', hb'⟩
      · omega
      · exact (h4 j' g (he j' hj') hb').1
    · obtain ⟨l1, l2⟩ := hold j hj hl
      rw [hval j hj, hblk j (.inl l1.1)] at hb
      have := h4 j g l1 hb
      exact ⟨this.1, by omega⟩
  · -- two own values
    have key : ∀ j, j ≠ i → Live sp (updB T i) j → (sp j).blk vs (vs j) = some g → (sp i).blk vs v = some g → False := by
      intro j hj hl hb hbi
      obtain ⟨l1, l2⟩ := hold j hj hl
      obtain ⟨_, b2⟩ := hB g hbi
      rcases b2 with b2 | ⟨j', hj', hb'⟩
      · have := (h4 j g l1 hb).2; omega
      · by_cases hjj : j = j'
        · subst hjj; exact l2 hj'
        · exact h5 j j' g hjj l1 (he j' hj') hb hb'
    by_cases hpi : p = i
    · subst hpi
      have hqi : q ≠ p := Ne.symm hpq
      obtain ⟨l1, _⟩ := hold q hqi hq
      rw [hvi, hblk p (.inr rfl)] at hbp
      rw [hval q hqi, hblk q (.inl l1.1)] at hbq
      exact key q hqi hq hbq hbp
    · obtain ⟨l1, _⟩ := hold p hpi hp
      rw [hval p hpi, hblk p (.inl l1.1)] at hbp
      by_cases hqi : q = i
      · subst hqi
        rw [hvi, hblk q (.inr rfl)] at hbq
        exact key p hpi hp hbp hbq
      · obtain ⟨l2, _⟩ := hold q hqi hq
        rw [hval q hqi, hblk q (.inl l2.1)] at hbq
        exact h5 p q g hpq l1 l2 hbp hbq
def depsAt (ops : Array Oper) (i : Nat) : List Nat := ((ops[i]?).map depsOf).getD []
/-- What an operation's fact says, and its own block. -/
abbrev FB := ((Nat → Value) → Value → World → Prop) × ((Nat → Value) → Value → Option Nat)
def dflFB : FB := (fun _ _ _ => True, fun _ _ => none)
def spOf (L : List FB) (E U : List (List Nat)) (i : Nat) : OSpec := ⟨(L.getD i dflFB).1, (L.getD i dflFB).2, E.getD i [], U.getD i []⟩
/-- D: whose facts an operation asks for. -/
def okO (ops : Array Oper) (E U D : List (List Nat)) : Bool :=
  decide (E.length ≤ ops.size) && decide (U.length ≤ ops.size) && (List.range ops.size).all fun i => ((E.getD i []).all fun j => (D.getD i []).contains j) && (((U.getD i []).all fun j => (depsAt ops i).contains j) &&
    (D.getD i []).all fun j => (depsAt ops i).contains j && (List.range ops.size).all fun k => !(E.getD k []).contains j || (k == i || (depsAt ops k).contains i))
def GoodO (Z : Nat) (x : FB) (u : List Nat) : Prop :=
  (∀ vs v w w', (∀ k, k < w.heap.size → (k < Z ∨ x.2 vs v = some k) → w'.heap[k]? = w.heap[k]?) → w.heap.size ≤ w'.heap.size → x.1 vs v w → x.1 vs v w') ∧
  (∀ vs vs' v w, (∀ k ∈ u, vs k = vs' k) → x.1 vs v w → x.1 vs' v w) ∧ (∀ vs vs' v, (∀ k ∈ u, vs k = vs' k) → x.2 vs v = x.2 vs' v)
def AllGood (Z : Nat) : List FB → List (List Nat) → Prop
  | [], _ => True
  | x :: l, [] => GoodO Z x [] ∧ AllGood Z l []
  | x :: l, u :: us => GoodO Z x u ∧ AllGood Z l us
theorem GoodO.dfl (Z : Nat) (u : List Nat) : GoodO Z dflFB u := ⟨fun _ _ _ _ _ _ _ => trivial, fun _ _ _ _ _ _ => trivial, fun _ _ _ _ => rfl⟩
theorem AllGood.at {Z : Nat} : ∀ (L : List FB) (U : List (List Nat)), AllGood Z L U → ∀ i, GoodO Z (L.getD i dflFB) (U.getD i [])
  | [], U, _, i => by simp only [List.getD_nil]; exact GoodO.dfl _ _
  | x :: l, [], h, 0 => h.1
  | x :: l, [], h, i + 1 => by have := AllGood.at l [] h.2 i; simpa using this
  | x :: l, u :: us, h, 0 => h.1
  | x :: l, u :: us, h, i + 1 => by have := AllGood.at l us h.2 i; simpa using this
variable {S : World → Prop} {Z : Nat} {L : List FB} {E U D : List (List Nat)} {A : (Nat → Value) → Act} {l : List Oper} {o : Oper} {i : Nat}
def DepO (L : List FB) (vs : Nat → Value) (w : World) : List Nat → Prop
  | [] => True
  | j :: l => (L.getD j dflFB).1 vs (vs j) w ∧ DepO L vs w l
def EndO (L : List FB) (E : List (List Nat)) (vs : Nat → Value) (w : World) : Nat → List FB → Prop
  | _, [] => True
  | i, x :: l => ((E.all fun m => !m.contains i) = true → x.1 vs (vs i) w) ∧ EndO L E vs w (i + 1) l
/-- One operation's part. -/
def ObO (P : Program) (ops : Array Oper) (S : World → Prop) (Z : Nat) (L : List FB) (E U D : List (List Nat)) (A : (Nat → Value) → Act) (i : Nat) (o : Oper) : Prop :=
  ∀ vs w, S w → Z ≤ w.heap.size → DepO L vs w (D.getD i []) →
    (Region.wanted o (yielded ops (A vs).tmps) = true ∧ OperR P o (A vs).eval w (fun v w' => Leaves (spOf L E U) i vs w v w')) ∨
    (Region.wanted o (yielded ops (A vs).tmps) = false ∧ Leaves (spOf L E U) i vs w undef w)
def SeqO (P : Program) (ops : Array Oper) (S : World → Prop) (Z : Nat) (L : List FB) (E U D : List (List Nat)) (Q : Exit → Act → World → Prop) (A : (Nat → Value) → Act) : Nat → List Oper → Prop
  | _, [] => ∀ vs w, S w → Z ≤ w.heap.size → EndO L E vs w 0 L → Q .normal (A vs) w
  | i, o :: l => ObO P ops S Z L E U D A i o ∧ SeqO P ops S Z L E U D Q A (i + 1) l
theorem SeqO.at : ∀ (l : List Oper) (i : Nat), SeqO P ops S Z L E U D Q A i l → (∀ k o, l[k]? = some o → ObO P ops S Z L E U D A (i + k) o) ∧ ∀ vs w, S w → Z ≤ w.heap.size → EndO L E vs w 0 L → Q .normal (A vs) w
  | [], i, h => ⟨fun k o hk => by simp at hk, h⟩
  | o :: l, i, h => by
    obtain ⟨h1, h2⟩ := SeqO.at l (i + 1) h.2
    refine ⟨fun k o' hk => ?_, h2⟩
    cases k with
    | zero => simp at hk; subst hk; exact h.1
    | succ k => have := h1 k o' (by simpa using hk); rw [show i + (k + 1) = i + 1 + k by omega]; exact this
end
end Go.Proofs.YtelanmknimapoaaGreatDoor
/- A region that draws its order and ends in stores and assignments that wait for all before them. -/
namespace Go.Proofs.YtelanmknimapoaaGreatDoor
open Go Go.RowKit
section
variable {P : Program} {ops : Array Oper} {Q : Exit → Act → World → Prop}
def mskU (k : Nat) (T : Nat → Bool) : Nat → Bool := fun i => decide (k ≤ i) && T i
end
end Go.Proofs.YtelanmknimapoaaGreatDoor
