/- A region that draws its order, its operations done one after another in the text's order; each by what is known of those that it waits for. -/
import Derived.Test.YthgnhdfppmoooaaGreatDoorInv
import Derived.Below
namespace Go.Proofs.YthgnhdfppmoooaaGreatDoor
open Go Go.RowKit
section
variable {P : Program} {ops : Array Oper} {Q : Exit → Act → World → Prop} {S : World → Prop} {a0 : Act}
abbrev Fact := Value → World → Prop
/-- What an operation does. -/
def OperR (P : Program) (o : Oper) (ρ : Operand → Value) (w : World) (F : Fact) : Prop :=
  match (execOp ρ o).run P w with
  | .ok (.value v) w' => F v w'
  | .ok .skip w' => F undef w'
  | .ok (.enter f args) w' => Calls P f args w' fun e w'' => ∃ v, e = .returned v ∧ F v w''
  | .ok (.row row args) w' => Rows P row args w' F
  | _ => False
theorem OperR.wp {o : Oper} {a : Act} {w : World} {F : Fact} (h : OperR P o a.eval w F) : o.wp P a w (fun a' w' => ∃ v, a' = a.put o.dst v ∧ F v w') NoWay := by
  unfold OperR at h
  unfold Oper.wp
  generalize (execOp a.eval o).run P w = r at *
  cases r with
  | halt x w' => exact h.elim
  | ok n w' =>
    cases n <;> simp only [Oper.upon] at h ⊢
    case value u => exact ⟨u, rfl, h⟩
    case skip => exact ⟨undef, rfl, h⟩
    case enter f args => exact Calls.mono h fun e w'' ⟨v, he, hF⟩ => by subst he; exact ⟨v, rfl, hF⟩
    case row row args => exact Rows.mono h fun v w'' hF => ⟨v, rfl, hF⟩
def rsAt (Rs : List Fact) (i : Nat) : Fact := Rs.getD i (fun _ _ => True)
def Stable (F : Fact) : Prop := ∀ v (w w' : World), Below w.heap.size w w' → F v w → F v w'
def DepF (Rs : List Fact) (vs : Nat → Value) (w : World) : List Nat → Prop
  | [] => True
  | j :: l => rsAt Rs j (vs j) w ∧ DepF Rs vs w l
def depsOf (o : Oper) : List Nat := (o.after.toList.filter (Region.binds .any)).map (·.on)
theorem DepF.of {Rs : List Fact} {vs : Nat → Value} {w : World} : ∀ (l : List Nat), (∀ j ∈ l, rsAt Rs j (vs j) w) → DepF Rs vs w l
  | [], _ => trivial
  | j :: l, h => ⟨h j (List.mem_cons_self ..), DepF.of l fun k hk => h k (List.mem_cons_of_mem _ hk)⟩
/-- The same, to be worked out by rewriting. -/
def isB : Ground → Bool
  | .data => true
  | .chain => true
  | .guard => true
  | .phase => true
  | .textOnly _ => false
  | .gcOnly _ => false
theorem isB_eq (e : Edge) : Region.binds .any e = isB e.ground := by
  unfold Region.binds
  cases e.ground <;> rfl
def DepA (Rs : List Fact) (vs : Nat → Value) (w : World) : List Edge → Prop
  | [] => True
  | e :: l => (isB e.ground = true → rsAt Rs e.on (vs e.on) w) ∧ DepA Rs vs w l
theorem DepF.depA {Rs : List Fact} {vs : Nat → Value} {w : World} {o : Oper} (h : DepF Rs vs w (depsOf o)) : DepA Rs vs w o.after.toList := by
  have key : ∀ l : List Edge, DepF Rs vs w ((l.filter (Region.binds .any)).map (·.on)) → DepA Rs vs w l := by
    intro l
    induction l with
    | nil => intro _; trivial
    | cons e l ih =>
      intro h
      rw [List.filter_cons] at h
      by_cases hb : Region.binds .any e = true
      · rw [if_pos hb] at h
        exact ⟨fun _ => h.1, ih h.2⟩
      · rw [if_neg hb] at h
        exact ⟨fun hc => absurd ((isB_eq e).trans hc) hb, ih h⟩
  exact key _ h
/-- One operation's part. -/
def ObI (P : Program) (ops : Array Oper) (S : World → Prop) (A : (Nat → Value) → Act) (Rs : List Fact) (o : Oper) (F : Fact) : Prop :=
  ∀ (vs : Nat → Value) (w : World), S w → DepF Rs vs w (depsOf o) →
    (Region.wanted o (yielded ops (A vs).tmps) = true ∧ OperR P o (A vs).eval w (fun v w' => F v w' ∧ Below w.heap.size w w')) ∨
    (Region.wanted o (yielded ops (A vs).tmps) = false ∧ F undef w)
def AllF (Rs : List Fact) (vs : Nat → Value) (w : World) : Nat → List Fact → Prop
  | _, [] => True
  | i, F :: l => F (vs i) w ∧ AllF Rs vs w (i + 1) l
/-- What is left to be done, the facts of those before in Rs. -/
def SeqI (P : Program) (ops : Array Oper) (S : World → Prop) (Q : Exit → Act → World → Prop) (A : (Nat → Value) → Act) : List Oper → List Fact → Prop
  | [], Rs => ∀ vs w, S w → (∀ i, i < Rs.length → rsAt Rs i (vs i) w) → Q .normal (A vs) w
  | o :: l, Rs => ∃ F, Stable F ∧ ObI P ops S A Rs o F ∧ SeqI P ops S Q A l (Rs ++ [F])
theorem rsAt_app (Rs : List Fact) (F : Fact) (i : Nat) (h : i < Rs.length) : rsAt (Rs ++ [F]) i = rsAt Rs i := by
  unfold rsAt
  rw [List.getD_eq_getElem?_getD, List.getD_eq_getElem?_getD, List.getElem?_append_left h]
theorem SeqI.all {A : (Nat → Value) → Act} : ∀ (l : List Oper) (Rs : List Fact), SeqI P ops S Q A l Rs → (∀ i, i < Rs.length → Stable (rsAt Rs i)) →
    ∃ Rs' : List Fact, Rs'.length = Rs.length + l.length ∧ (∀ i, i < Rs.length → rsAt Rs' i = rsAt Rs i) ∧ (∀ i, i < Rs'.length → Stable (rsAt Rs' i)) ∧
      (∀ i o, l[i]? = some o → (∀ j ∈ depsOf o, j < Rs.length + i) → ObI P ops S A Rs' o (rsAt Rs' (Rs.length + i))) ∧
      (∀ vs w, S w → (∀ i, i < Rs'.length → rsAt Rs' i (vs i) w) → Q .normal (A vs) w) := by
  intro l
  induction l with
  | nil => intro Rs h hs; exact ⟨Rs, by simp, fun _ _ => rfl, hs, fun i o hi => by simp at hi, h⟩
  | cons o l ih =>
    intro Rs h hs
    obtain ⟨F, hF, hob, hr⟩ := h
    have hFl : rsAt (Rs ++ [F]) Rs.length = F := by unfold rsAt; simp
    obtain ⟨Rs', h1, h2, h3, h4, h5⟩ := ih (Rs ++ [F]) hr (fun i hi => by
      by_cases hi' : i < Rs.length
      · rw [rsAt_app Rs F i hi']; exact hs i hi'
      · have : i = Rs.length := by simp at hi; omega
        subst this; rw [hFl]; exact hF)
    refine ⟨Rs', by simp at h1 ⊢; omega, fun i hi => by rw [h2 i (by simp; omega), rsAt_app Rs F i hi], h3, ?_, h5⟩
    intro i o' hi hd
    cases i with
    | zero =>
      simp at hi; subst hi
      have e : rsAt Rs' (Rs.length + 0) = F := by rw [Nat.add_zero, h2 _ (by simp), hFl]
      rw [e]
      intro vs w hS hD
      refine hob vs w hS ?_
      have key : ∀ (m : List Nat), (∀ j ∈ m, j < Rs.length) → DepF Rs' vs w m → DepF Rs vs w m := by
        intro m
        induction m with
        | nil => intro _ _; trivial
        | cons j m ihm =>
          intro hj hD
          refine ⟨?_, ihm (fun k hk => hj k (List.mem_cons_of_mem _ hk)) hD.2⟩
          have := hD.1
          rw [h2 j (by have := hj j (List.mem_cons_self ..); simp; omega), rsAt_app Rs F j (hj j (List.mem_cons_self ..))] at this
          exact this
      exact key _ (fun j hj => by have := hd j hj; omega) hD
    | succ i =>
      simp at hi
      have := h4 i o' hi (fun j hj => by have := hd j hj; simp; omega)
      rw [show (Rs ++ [F]).length + i = Rs.length + (i + 1) by simp; omega] at this
      exact this
def putsL (vs : Nat → Value) : Nat → List Oper → Act → Act
  | _, [], a => a
  | i, o :: l, a => putsL vs (i + 1) l (a.put o.dst (vs i))
theorem puts_range (vs : Nat → Value) : ∀ (n m : Nat) (a : Act), m + n = ops.size → puts ops vs (List.range' m n) a = putsL vs m (ops.toList.drop m) a := by
  intro n
  induction n with
  | zero => intro m a h; rw [List.drop_of_length_le (by simp; omega)]; rfl
  | succ n ih =>
    intro m a h
    have hlt : m < ops.size := by omega
    rw [List.drop_eq_getElem_cons (by simpa using hlt), List.range'_succ]
    unfold puts putsL
    rw [ih (m + 1) _ (by omega)]
    simp [dstOf, hlt]
theorem full_putsL (a : Act) : full ops a = fun vs => putsL vs 0 ops.toList a := by
  funext vs
  unfold full
  rw [List.range_eq_range', puts_range vs ops.size 0 a (by omega)]; rfl
def depsBack (ops : Array Oper) : Bool := (List.range ops.size).all fun j => ((ops[j]?).map (·.after.all fun e => !Region.binds .any e || e.on < j)).getD false
/-- The region. -/
theorem wp_region_seqi {id : Nat} {a : Act} {w : World} (S : World → Prop) (hst : ∀ w w', Below w.heap.size w w' → S w → S w') (hm : P.follows Departure.mixedOrders = true) (hd : dstsApart ops = true) (hc : depsBack ops = true)
    (hS : S { w with drawn := w.drawn + 1 }) (h : SeqI P ops S Q (fun vs => putsL vs 0 ops.toList a) ops.toList []) : (Code.region id ops true).wp P Q a w := by
  rw [← full_putsL] at h
  obtain ⟨Rs, h1, _, h3, h4, h5⟩ := SeqI.all ops.toList [] h (fun i hi => by simp at hi)
  simp only [List.length_nil, Nat.zero_add, Array.length_toList] at h1 h4
  have hback : ∀ i o, ops[i]? = some o → ∀ j ∈ depsOf o, j < i := by
    intro i o ho j hj
    obtain ⟨hlt, he⟩ := Array.getElem?_eq_some_iff.1 ho
    have h1 := List.all_eq_true.1 hc i (List.mem_range.2 hlt)
    rw [ho] at h1
    simp only [Option.map_some, Option.getD_some, Array.all_eq_true_iff_forall_mem] at h1
    obtain ⟨e, hem, rfl⟩ := List.mem_map.1 hj
    obtain ⟨hem1, hem2⟩ := List.mem_filter.1 hem
    have := h1 e (by simpa using hem1)
    rw [hem2] at this
    simpa using this
  refine wp_region_inv S (fun _ w w' => Below w.heap.size w w') (fun _ i v w => rsAt Rs i v w) hm hd hc (fun T i j v w w' _ _ _ hB hv => ?_) hS ?_ ?_
  · by_cases hj : j < Rs.length
    · exact h3 j hj v w w' hB hv
    · have e : rsAt Rs j = fun _ _ => True := by unfold rsAt; rw [List.getD_eq_getElem?_getD, List.getElem?_eq_none (by omega)]; rfl
      rw [e]; trivial
  · intro i hi vs T w o ho _ hSw hdep
    have ho' : ops.toList[i]? = some o := by simpa using ho
    have := h4 i o ho' (hback i o ho) vs w hSw (DepF.of _ fun j hj => by
      obtain ⟨e, hem, rfl⟩ := List.mem_map.1 hj
      obtain ⟨hem1, hem2⟩ := List.mem_filter.1 hem
      exact hdep e (by simpa using hem1) hem2)
    rcases this with ⟨hw, hr⟩ | ⟨hw, hF⟩
    · refine .inl ⟨hw, ?_⟩
      have h7 := OperR.wp hr
      unfold Oper.wp at h7 ⊢
      exact upon_way h7 (fun u w' ⟨v, e1, e2, e3⟩ => ⟨v, e1, e2, hst _ _ e3 hSw, e3⟩) (fun d w' ⟨v, e1, _⟩ => by have h1 := congrArg (fun x => x.defers.length) e1; simp [put_def] at h1)
    · exact .inr ⟨hw, hF, Below.refl _ _⟩
  · intro vs T w hSw _ hv
    exact h5 vs w hSw fun i hi => hv i (by omega)
/-! The steps -/
theorem stable_val (c : Value) : Stable (fun v _ => v = c) := fun _ _ _ _ h => h
variable {A : (Nat → Value) → Act} {l : List Oper} {Rs : List Fact} {o : Oper}
/-- A value that hangs on nothing. -/
theorem seqi_run (c : Value) (hw : ∀ vs w, DepA Rs vs w o.after.toList → Region.wanted o (yielded ops (A vs).tmps) = true)
    (h : ∀ vs w, S w → DepA Rs vs w o.after.toList → (execOp (A vs).eval o).run P w = .ok (.value c) w) (hr : SeqI P ops S Q A l (Rs ++ [fun v _ => v = c])) : SeqI P ops S Q A (o :: l) Rs :=
  ⟨_, stable_val c, fun vs w hS hD => .inl ⟨hw vs w hD.depA, by unfold OperR; rw [h vs w hS hD.depA]; exact ⟨rfl, Below.refl _ _⟩⟩, hr⟩
theorem seqi_not (hw : ∀ vs w, DepA Rs vs w o.after.toList → Region.wanted o (yielded ops (A vs).tmps) = false)
    (hr : SeqI P ops S Q A l (Rs ++ [fun v _ => v = undef])) : SeqI P ops S Q A (o :: l) Rs :=
  ⟨_, stable_val undef, fun vs w _ hD => .inr ⟨hw vs w hD.depA, rfl⟩, hr⟩
/-- A call. -/
theorem seqi_call (F : Fact) (hF : Stable F) {f : FuncId} (args : (Nat → Value) → Array Value) (hw : ∀ vs w, DepA Rs vs w o.after.toList → Region.wanted o (yielded ops (A vs).tmps) = true)
    (h : ∀ vs w, S w → DepA Rs vs w o.after.toList → (execOp (A vs).eval o).run P w = .ok (.enter f (args vs)) w)
    (hc : ∀ vs w, S w → DepA Rs vs w o.after.toList → Calls P f (args vs) w fun e w' => (∃ v, e = .returned v ∧ F v w') ∧ Below w.heap.size w w') (hr : SeqI P ops S Q A l (Rs ++ [F])) : SeqI P ops S Q A (o :: l) Rs :=
  ⟨F, hF, fun vs w hS hD => .inl ⟨hw vs w hD.depA, by unfold OperR; rw [h vs w hS hD.depA]; exact (hc vs w hS hD.depA).mono fun e w' ⟨⟨v, he, hv⟩, hB⟩ => ⟨v, he, hv, hB⟩⟩, hr⟩
/-- A value of which something is known. -/
theorem seqi_dep (F : Fact) (hF : Stable F) (hw : ∀ vs w, DepA Rs vs w o.after.toList → Region.wanted o (yielded ops (A vs).tmps) = true)
    (h : ∀ vs w, S w → DepA Rs vs w o.after.toList → ∃ v, (execOp (A vs).eval o).run P w = .ok (.value v) w ∧ F v w) (hr : SeqI P ops S Q A l (Rs ++ [F])) : SeqI P ops S Q A (o :: l) Rs :=
  ⟨F, hF, fun vs w hS hD => .inl ⟨hw vs w hD.depA, by obtain ⟨v, h1, h2⟩ := h vs w hS hD.depA; unfold OperR; rw [h1]; exact ⟨h2, Below.refl _ _⟩⟩, hr⟩
/-- Anything else. -/
theorem seqi_oper (F : Fact) (hF : Stable F) (hw : ∀ vs w, DepA Rs vs w o.after.toList → Region.wanted o (yielded ops (A vs).tmps) = true)
    (h : ∀ vs w, S w → DepA Rs vs w o.after.toList → OperR P o (A vs).eval w (fun v w' => F v w' ∧ Below w.heap.size w w')) (hr : SeqI P ops S Q A l (Rs ++ [F])) : SeqI P ops S Q A (o :: l) Rs :=
  ⟨F, hF, fun vs w hS hD => .inl ⟨hw vs w hD.depA, h vs w hS hD.depA⟩, hr⟩
theorem seqi_end (h : ∀ vs w, S w → AllF Rs vs w 0 Rs → Q .normal (A vs) w) : SeqI P ops S Q A [] Rs := by
  intro vs w hS hv
  refine h vs w hS ?_
  have key : ∀ (m : List Fact) (i : Nat), (∀ j, j < m.length → m.getD j (fun _ _ => True) (vs (i + j)) w) → AllF Rs vs w i m := by
    intro m
    induction m with
    | nil => intro _ _; trivial
    | cons F m ih =>
      intro i hj
      refine ⟨by have := hj 0 (by simp); simpa using this, ih (i + 1) fun j hj' => ?_⟩
      have := hj (j + 1) (by simpa using hj')
      rw [show i + (j + 1) = i + 1 + j by omega] at this
      simpa using this
  exact key Rs 0 fun j hj => by have := hv j hj; unfold rsAt at this; rw [Nat.zero_add]; exact this
end
end Go.Proofs.YthgnhdfppmoooaaGreatDoor
