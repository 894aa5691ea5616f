/- As SeqI; and the count of draws does not fall, so that the world behind is the one before with draws and new blocks. -/
import Derived.Test.YthgnhdfppmoooaaMseq
import Derived.Sort.Grow
import Derived.Deep.Draws
namespace Go.Proofs.Ythgnhdfppmoooaa.Dw
open Go Go.RowKit
def BelD (w w' : World) : Prop := Below w.heap.size w w' ∧ w.drawn ≤ w'.drawn
theorem BelD.refl (w : World) : BelD w w := ⟨Below.refl _ _, Nat.le_refl _⟩
theorem BelD.next {a b c : World} (h : BelD a b) (k : BelD b c) : BelD a c := ⟨Below.trans h.1 (k.1.mono h.1.size), Nat.le_trans h.2 k.2⟩
theorem BelD.drew {a b : World} (h : BelD a b) : BelD a b.drew := ⟨h.1.drew, Nat.le_trans h.2 (Nat.le_succ _)⟩
theorem BelD.alloc (w : World) (o : Obj) : BelD w (w.alloc o) := ⟨(Below.refl _ w).alloc (Nat.le_refl _) o, Nat.le_refl _⟩
theorem BelD.grow {w w' : World} (h : BelD w w') : ∃ q os, w' = Sort.grow (w.drewN q) os := by
  refine ⟨w'.drawn - w.drawn, w'.heap.extract w.heap.size w'.heap.size, ?_⟩
  obtain ⟨hB, hd⟩ := h
  have e1 : w'.heap = w.heap ++ w'.heap.extract w.heap.size w'.heap.size := by
    apply Array.ext_getElem?
    intro k
    rw [Array.getElem?_append]
    by_cases hk : k < w.heap.size
    · rw [if_pos hk]; exact hB.block k hk
    · rw [if_neg hk, Array.getElem?_extract]
      have := hB.size
      by_cases hk2 : k < w'.heap.size
      · rw [if_pos (by omega), show w.heap.size + (k - w.heap.size) = k by omega]
      · rw [if_neg (by omega)]; exact Array.getElem?_eq_none (by omega)
  have e2 : w.drawn + (w'.drawn - w.drawn) = w'.drawn := by omega
  unfold Sort.grow World.drewN
  cases w'
  cases w
  have h1 := hB.os; have h2 := hB.tape; have h3 := hB.output
  dsimp only at *
  subst h1; subst h2; subst h3
  rw [e2, ← e1]
section
variable {P : Program} {ops : Array Oper} {Q : Exit → Act → World → Prop} {S : World → Prop} {a0 : Act}
/-- One operation's part. -/
def ObD (P : Program) (ops : Array Oper) (S : World → Prop) (A : (Nat → Value) → Act) (Rs : List Fact) (o : Oper) (F : Fact) : Prop :=
  ∀ (vs : Nat → Value) (w : World), S w → DepF Rs vs w (depsOf o) →
    (Region.wanted o (yielded ops (A vs).tmps) = true ∧ OperR P o (A vs).eval w (fun v w' => F v w' ∧ BelD w w')) ∨
    (Region.wanted o (yielded ops (A vs).tmps) = false ∧ F undef w)
/-- What is left to be done, the facts of those before in Rs. -/
def SeqD (P : Program) (ops : Array Oper) (S : World → Prop) (Q : Exit → Act → World → Prop) (A : (Nat → Value) → Act) : List Oper → List Fact → Prop
  | [], Rs => ∀ vs w, S w → (∀ i, i < Rs.length → rsAt Rs i (vs i) w) → Q .normal (A vs) w
  | o :: l, Rs => ∃ F, Stable F ∧ ObD P ops S A Rs o F ∧ SeqD P ops S Q A l (Rs ++ [F])
theorem SeqD.all {A : (Nat → Value) → Act} : ∀ (l : List Oper) (Rs : List Fact), SeqD P ops S Q A l Rs → (∀ i, i < Rs.length → Stable (rsAt Rs i)) →
    ∃ Rs' : List Fact, Rs'.length = Rs.length + l.length ∧ (∀ i, i < Rs.length → rsAt Rs' i = rsAt Rs i) ∧ (∀ i, i < Rs'.length → Stable (rsAt Rs' i)) ∧
      (∀ i o, l[i]? = some o → (∀ j ∈ depsOf o, j < Rs.length + i) → ObD P ops S A Rs' o (rsAt Rs' (Rs.length + i))) ∧
      (∀ vs w, S w → (∀ i, i < Rs'.length → rsAt Rs' i (vs i) w) → Q .normal (A vs) w) := by
  intro l
  induction l with
  | nil => intro Rs h hs; exact ⟨Rs, by simp, fun _ _ => rfl, hs, fun i o hi => by simp at hi, h⟩
  | cons o l ih =>
    intro Rs h hs
    obtain ⟨F, hF, hob, hr⟩ := h
    have hFl : rsAt (Rs ++ [F]) Rs.length = F := by unfold rsAt; simp
    obtain ⟨Rs', h1, h2, h3, h4, h5⟩ := ih (Rs ++ [F]) hr (fun i hi => by
      by_cases hi' : i < Rs.length
      · rw [rsAt_app Rs F i hi']; exact hs i hi'
      · have : i = Rs.length := by simp at hi; omega
        subst this; rw [hFl]; exact hF)
    refine ⟨Rs', by simp at h1 ⊢; omega, fun i hi => by rw [h2 i (by simp; omega), rsAt_app Rs F i hi], h3, ?_, h5⟩
    intro i o' hi hd
    cases i with
    | zero =>
      simp at hi; subst hi
      have e : rsAt Rs' (Rs.length + 0) = F := by rw [Nat.add_zero, h2 _ (by simp), hFl]
      rw [e]
      intro vs w hS hD
      refine hob vs w hS ?_
      have key : ∀ (m : List Nat), (∀ j ∈ m, j < Rs.length) → DepF Rs' vs w m → DepF Rs vs w m := by
        intro m
        induction m with
        | nil => intro _ _; trivial
        | cons j m ihm =>
          intro hj hD
          refine ⟨?_, ihm (fun k hk => hj k (List.mem_cons_of_mem _ hk)) hD.2⟩
          have := hD.1
          rw [h2 j (by have := hj j (List.mem_cons_self ..); simp; omega), rsAt_app Rs F j (hj j (List.mem_cons_self ..))] at this
          exact this
      exact key _ (fun j hj => by have := hd j hj; omega) hD
    | succ i =>
      simp at hi
      have := h4 i o' hi (fun j hj => by have := hd j hj; simp; omega)
      rw [show (Rs ++ [F]).length + i = Rs.length + (i + 1) by simp; omega] at this
      exact this
/-- The region. -/
theorem wp_region_seqd {id : Nat} {a : Act} {w : World} (S : World → Prop) (hst : ∀ w w', BelD w w' → S w → S w') (hm : P.follows Departure.mixedOrders = true) (hd : dstsApart ops = true) (hc : depsBack ops = true)
    (hS : S { w with drawn := w.drawn + 1 }) (h : SeqD P ops S Q (fun vs => putsL vs 0 ops.toList a) ops.toList []) : (Code.region id ops true).wp P Q a w := by
  rw [← full_putsL] at h
  obtain ⟨Rs, h1, _, h3, h4, h5⟩ := SeqD.all ops.toList [] h (fun i hi => by simp at hi)
  simp only [List.length_nil, Nat.zero_add, Array.length_toList] at h1 h4
  have hback : ∀ i o, ops[i]? = some o → ∀ j ∈ depsOf o, j < i := by
    intro i o ho j hj
    obtain ⟨hlt, he⟩ := Array.getElem?_eq_some_iff.1 ho
    have h1 := List.all_eq_true.1 hc i (List.mem_range.2 hlt)
    rw [ho] at h1
    simp only [Option.map_some, Option.getD_some, Array.all_eq_true_iff_forall_mem] at h1
    obtain ⟨e, hem, rfl⟩ := List.mem_map.1 hj
    obtain ⟨hem1, hem2⟩ := List.mem_filter.1 hem
    have := h1 e (by simpa using hem1)
    rw [hem2] at this
    simpa using this
  refine wp_region_inv S (fun _ w w' => BelD w w') (fun _ i v w => rsAt Rs i v w) hm hd hc (fun T i j v w w' _ _ _ hB hv => ?_) hS ?_ ?_
  · by_cases hj : j < Rs.length
    · exact h3 j hj v w w' hB.1 hv
    · have e : rsAt Rs j = fun _ _ => True := by unfold rsAt; rw [List.getD_eq_getElem?_getD, List.getElem?_eq_none (by omega)]; rfl
      rw [e]; trivial
  · intro i hi vs T w o ho _ hSw hdep
    have ho' : ops.toList[i]? = some o := by simpa using ho
    have := h4 i o ho' (hback i o ho) vs w hSw (DepF.of _ fun j hj => by
      obtain ⟨e, hem, rfl⟩ := List.mem_map.1 hj
      obtain ⟨hem1, hem2⟩ := List.mem_filter.1 hem
      exact hdep e (by simpa using hem1) hem2)
    rcases this with ⟨hw, hr⟩ | ⟨hw, hF⟩
    · refine .inl ⟨hw, ?_⟩
      have h7 := OperR.wp hr
      unfold Oper.wp at h7 ⊢
      exact upon_way h7 (fun u w' ⟨v, e1, e2, e3⟩ => ⟨v, e1, e2, hst _ _ e3 hSw, e3⟩) (fun d w' ⟨v, e1, _⟩ => by have h1 := congrArg (fun x => x.defers.length) e1; simp [put_def] at h1)
    · exact .inr ⟨hw, hF, BelD.refl _⟩
  · intro vs T w hSw _ hv
    exact h5 vs w hSw fun i hi => hv i (by omega)
/-! The steps -/
variable {A : (Nat → Value) → Act} {l : List Oper} {Rs : List Fact} {o : Oper}
/-- A value that hangs on nothing. -/
theorem seqd_run (c : Value) (hw : ∀ vs w, DepA Rs vs w o.after.toList → Region.wanted o (yielded ops (A vs).tmps) = true)
    (h : ∀ vs w, S w → DepA Rs vs w o.after.toList → (execOp (A vs).eval o).run P w = .ok (.value c) w) (hr : SeqD P ops S Q A l (Rs ++ [fun v _ => v = c])) : SeqD P ops S Q A (o :: l) Rs :=
  ⟨_, stable_val c, fun vs w hS hD => .inl ⟨hw vs w hD.depA, by unfold OperR; rw [h vs w hS hD.depA]; exact ⟨rfl, BelD.refl _⟩⟩, hr⟩
theorem seqd_not (hw : ∀ vs w, DepA Rs vs w o.after.toList → Region.wanted o (yielded ops (A vs).tmps) = false)
    (hr : SeqD P ops S Q A l (Rs ++ [fun v _ => v = undef])) : SeqD P ops S Q A (o :: l) Rs :=
  ⟨_, stable_val undef, fun vs w _ hD => .inr ⟨hw vs w hD.depA, rfl⟩, hr⟩
/-- A call. -/
theorem seqd_call (F : Fact) (hF : Stable F) {f : FuncId} (args : (Nat → Value) → Array Value) (hw : ∀ vs w, DepA Rs vs w o.after.toList → Region.wanted o (yielded ops (A vs).tmps) = true)
    (h : ∀ vs w, S w → DepA Rs vs w o.after.toList → (execOp (A vs).eval o).run P w = .ok (.enter f (args vs)) w)
    (hc : ∀ vs w, S w → DepA Rs vs w o.after.toList → Calls P f (args vs) w fun e w' => (∃ v, e = .returned v ∧ F v w') ∧ BelD w w') (hr : SeqD P ops S Q A l (Rs ++ [F])) : SeqD P ops S Q A (o :: l) Rs :=
  ⟨F, hF, fun vs w hS hD => .inl ⟨hw vs w hD.depA, by unfold OperR; rw [h vs w hS hD.depA]; exact (hc vs w hS hD.depA).mono fun e w' ⟨⟨v, he, hv⟩, hB⟩ => ⟨v, he, hv, hB⟩⟩, hr⟩
/-- A value of which something is known. -/
theorem seqd_dep (F : Fact) (hF : Stable F) (hw : ∀ vs w, DepA Rs vs w o.after.toList → Region.wanted o (yielded ops (A vs).tmps) = true)
    (h : ∀ vs w, S w → DepA Rs vs w o.after.toList → ∃ v, (execOp (A vs).eval o).run P w = .ok (.value v) w ∧ F v w) (hr : SeqD P ops S Q A l (Rs ++ [F])) : SeqD P ops S Q A (o :: l) Rs :=
  ⟨F, hF, fun vs w hS hD => .inl ⟨hw vs w hD.depA, by obtain ⟨v, h1, h2⟩ := h vs w hS hD.depA; unfold OperR; rw [h1]; exact ⟨h2, BelD.refl _⟩⟩, hr⟩
/-- Anything else. -/
theorem seqd_oper (F : Fact) (hF : Stable F) (hw : ∀ vs w, DepA Rs vs w o.after.toList → Region.wanted o (yielded ops (A vs).tmps) = true)
    (h : ∀ vs w, S w → DepA Rs vs w o.after.toList → OperR P o (A vs).eval w (fun v w' => F v w' ∧ BelD w w')) (hr : SeqD P ops S Q A l (Rs ++ [F])) : SeqD P ops S Q A (o :: l) Rs :=
  ⟨F, hF, fun vs w hS hD => .inl ⟨hw vs w hD.depA, h vs w hS hD.depA⟩, hr⟩
theorem seqd_end (h : ∀ vs w, S w → AllF Rs vs w 0 Rs → Q .normal (A vs) w) : SeqD P ops S Q A [] Rs := by
  intro vs w hS hv
  refine h vs w hS ?_
  have key : ∀ (m : List Fact) (i : Nat), (∀ j, j < m.length → m.getD j (fun _ _ => True) (vs (i + j)) w) → AllF Rs vs w i m := by
    intro m
    induction m with
    | nil => intro _ _; trivial
    | cons F m ih =>
      intro i hj
      refine ⟨by have := hj 0 (by simp); simpa using this, ih (i + 1) fun j hj' => ?_⟩
      have := hj (j + 1) (by simpa using hj')
      rw [show i + (j + 1) = i + 1 + j by omega] at this
      simpa using this
  exact key Rs 0 fun j hj => by have := hv j hj; unfold rsAt at this; rw [Nat.zero_add]; exact this
end
end Go.Proofs.Ythgnhdfppmoooaa.Dw
