/- Merged: Inv SeqI. -/
import Derived.Test.YtelanmknimapoaaGreatDoorSeq
import Derived.Below
/- A region that draws its order, its values hanging on the world: each operation by an obligation of its own. -/
namespace Go.Proofs.YtelanmknimapoaaGreatDoor
open Go
section
variable {P : Program} {ops : Array Oper} {Q : Exit → Act → World → Prop} {md : Region.Mode} {S : World → Prop}
def dstOf (ops : Array Oper) (j : Nat) : Option Tmp := (ops[j]?).bind (·.dst)
def puts (ops : Array Oper) (vs : Nat → Value) : List Nat → Act → Act
  | [], a => a
  | j :: l, a => puts ops vs l (a.put (dstOf ops j) (vs j))
/-- The frame behind the operations, each value under its letter. -/
def full (ops : Array Oper) (a0 : Act) (vs : Nat → Value) : Act := puts ops vs (List.range ops.size) a0
def upd (vs : Nat → Value) (i : Nat) (v : Value) : Nat → Value := fun j => if j = i then v else vs j
theorem put_self (a : Act) (x : Option Tmp) : a.put x (match x with | some d => a.eval (.tmp d) | none => undef) = a := by
  cases x with
  | none => rfl
  | some d =>
    simp only [Act.put]
    congr 1
    apply Array.ext_getElem?
    intro t
    by_cases h : d = t
    · subst h
      by_cases h2 : d < a.tmps.size
      · simp [Act.eval, h2]
      · simp [h2]
    · rw [Array.getElem?_setIfInBounds_ne h]
theorem puts_self (a : Act) : ∀ l : List Nat, puts ops (fun j => match dstOf ops j with | some d => a.eval (.tmp d) | none => undef) l a = a := by
  intro l
  induction l with
  | nil => rfl
  | cons j l ih => unfold puts; rw [put_self]; exact ih
theorem puts_comm (vs : Nat → Value) (x : Option Tmp) (v : Value) : ∀ (l : List Nat) (a : Act), (∀ j ∈ l, ∀ d, x = some d → dstOf ops j ≠ some d) → puts ops vs l (a.put x v) = (puts ops vs l a).put x v := by
  intro l
  induction l with
  | nil => intro a _; rfl
  | cons j l ih =>
    intro a h
    unfold puts
    rw [Act.put_comm a v (vs j) (h j (List.mem_cons_self ..)), ih _ (fun k hk => h k (List.mem_cons_of_mem _ hk))]
theorem puts_upd_not (vs : Nat → Value) (i : Nat) (v : Value) : ∀ (l : List Nat) (a : Act), i ∉ l → puts ops (upd vs i v) l a = puts ops vs l a := by
  intro l
  induction l with
  | nil => intro a _; rfl
  | cons j l ih =>
    intro a h
    have hj : j ≠ i := fun e => h (by rw [e]; exact List.mem_cons_self ..)
    unfold puts
    rw [show upd vs i v j = vs j from if_neg hj, ih _ (fun hm => h (List.mem_cons_of_mem _ hm))]
theorem put_put (a : Act) (x : Option Tmp) (u v : Value) : (a.put x u).put x v = a.put x v := by
  cases x with
  | none => rfl
  | some d => simp [Act.put]
theorem puts_upd (vs : Nat → Value) (i : Nat) (v : Value) : ∀ (l : List Nat) (a : Act), l.Nodup → (∀ j ∈ l, j ≠ i → ∀ d, dstOf ops i = some d → dstOf ops j ≠ some d) → i ∈ l →
    puts ops (upd vs i v) l a = (puts ops vs l a).put (dstOf ops i) v := by
  intro l
  induction l with
  | nil => intro a _ _ h; cases h
  | cons j l ih =>
    intro a hn hd hm
    obtain ⟨hn1, hn2⟩ := List.nodup_cons.1 hn
    by_cases hj : j = i
    · subst hj
      unfold puts
      rw [show upd vs j v j = v from if_pos rfl, puts_upd_not vs j v l _ hn1, ← puts_comm vs (dstOf ops j) v l _ (fun k hk => hd k (List.mem_cons_of_mem _ hk) (fun e => hn1 (e ▸ hk))), put_put]
    · unfold puts
      rw [show upd vs i v j = vs j from if_neg hj]
      exact ih _ hn2 (fun k hk => hd k (List.mem_cons_of_mem _ hk)) (by rcases List.mem_cons.1 hm with h | h; exact absurd h.symm hj; exact h)
def updB (T : Nat → Bool) (i : Nat) : Nat → Bool := fun j => if j = i then true else T j
/-- What is asked of operation i; T: what has come up. -/
def Ob (P : Program) (ops : Array Oper) (md : Region.Mode) (S : World → Prop) (St : Nat → World → World → Prop) (R : (Nat → Bool) → Nat → Value → World → Prop) (a0 : Act) (i : Nat) : Prop :=
  ∀ (vs : Nat → Value) (T : Nat → Bool) (w : World) (o : Oper), ops[i]? = some o → T i = false → S w → (∀ e ∈ o.after, Region.binds md e = true → R T e.on (vs e.on) w) →
    (Region.wanted o (yielded ops (full ops a0 vs).tmps) = true ∧ o.wp P (full ops a0 vs) w (fun a' w' => ∃ v, a' = (full ops a0 vs).put o.dst v ∧ R (updB T i) i v w' ∧ S w' ∧ St i w w') NoWay) ∨
    (Region.wanted o (yielded ops (full ops a0 vs).tmps) = false ∧ R (updB T i) i undef w ∧ St i w w)
def dstsApart (ops : Array Oper) : Bool := (List.range ops.size).all fun i => (List.range ops.size).all fun j => j == i || dstOf ops i == none || dstOf ops j != dstOf ops i
end
end Go.Proofs.YtelanmknimapoaaGreatDoor
/- A region that draws its order, its operations done one after another in the text's order; each by what is known of those that it waits for. -/
namespace Go.Proofs.YtelanmknimapoaaGreatDoor
open Go Go.RowKit
section
variable {P : Program} {ops : Array Oper} {Q : Exit → Act → World → Prop} {S : World → Prop} {a0 : Act}
abbrev Fact := Value → World → Prop
/-- What an operation does. -/
def OperR (P : Program) (o : Oper) (ρ : Operand → Value) (w : World) (F : Fact) : Prop :=
  match (execOp ρ o).run P w with
  | .ok (.value v) w' => F v w'
  | .ok .skip w' => F undef w'
  | .ok (.enter f args) w' => Calls P f args w' fun e w'' => ∃ v, e = .returned v ∧ F v w''
  | .ok (.row row args) w' => Rows P row args w' F
  | _ => False
theorem OperR.wp {o : Oper} {a : Act} {w : World} {F : Fact} (h : OperR P o a.eval w F) : o.wp P a w (fun a' w' => ∃ v, a' = a.put o.dst v ∧ F v w') NoWay := by
  unfold OperR at h
  unfold Oper.wp
  generalize (execOp a.eval o).run P w = r at *
  cases r with
  | halt x w' => exact h.elim
  | ok n w' =>
    cases n <;> simp only [Oper.upon] at h ⊢
    case value u => exact ⟨u, rfl, h⟩
    case skip => exact ⟨undef, rfl, h⟩
    case enter f args => exact Calls.mono h fun e w'' ⟨v, he, hF⟩ => by subst he; exact ⟨v, rfl, hF⟩
    case row row args => exact Rows.mono h fun v w'' hF => ⟨v, rfl, hF⟩
def rsAt (Rs : List Fact) (i : Nat) : Fact := Rs.getD i (fun _ _ => True)
def Stable (F : Fact) : Prop := ∀ v (w w' : World), Below w.heap.size w w' → F v w → F v w'
def DepF (Rs : List Fact) (vs : Nat → Value) (w : World) : List Nat → Prop
  | [] => True
  | j :: l => rsAt Rs j (vs j) w ∧ DepF Rs vs w l
def depsOf (o : Oper) : List Nat := (o.after.toList.filter (Region.binds .any)).map (·.on)
theorem DepF.of {Rs : List Fact} {vs : Nat → Value} {w : World} : ∀ (l : List Nat), (∀ j ∈ l, rsAt Rs j (vs j) w) → DepF Rs vs w l
  | [], _ => trivial
  | j :: l, h => ⟨h j (List.mem_cons_self ..), DepF.of l fun k hk => h k (List.mem_cons_of_mem _ hk)⟩
/-- The same, to be worked out by rewriting. -/
def isB : Ground → Bool
  | .data => true
  | .chain => true
  | .guard => true
  | .phase => true
  | .textOnly _ => false
  | .gcOnly _ => false
theorem isB_eq (e : Edge) : Region.binds .any e = isB e.ground := by
  unfold Region.binds
  cases e.ground <;> rfl
def DepA (Rs : List Fact) (vs : Nat → Value) (w : World) : List Edge → Prop
  | [] => True
  | e :: l => (isB e.ground = true → rsAt Rs e.on (vs e.on) w) ∧ DepA Rs vs w l
theorem DepF.depA {Rs : List Fact} {vs : Nat → Value} {w : World} {o : Oper} (h : DepF Rs vs w (depsOf o)) : DepA Rs vs w o.after.toList := by
  have key : ∀ l : List Edge, DepF Rs vs w ((l.filter (Region.binds .any)).map (·.on)) → DepA Rs vs w l := by
    intro l
    induction l with
    | nil => intro _; trivial
    | cons e l ih =>
      intro h
      rw [List.filter_cons] at h
      by_cases hb : Region.binds .any e = true
      · rw [if_pos hb] at h
        exact ⟨fun _ => h.1, ih h.2⟩
      · rw [if_neg hb] at h
        exact ⟨fun hc => absurd ((isB_eq e).trans hc) hb, ih h⟩
  exact key _ h
/-- One operation's part. -/
def ObI (P : Program) (ops : Array Oper) (S : World → Prop) (A : (Nat → Value) → Act) (Rs : List Fact) (o : Oper) (F : Fact) : Prop :=
  ∀ (vs : Nat → Value) (w : World), S w → DepF Rs vs w (depsOf o) →
    (Region.wanted o (yielded ops (A vs).tmps) = true ∧ OperR P o (A vs).eval w (fun v w' => F v w' ∧ Below w.heap.size w w')) ∨
    (Region.wanted o (yielded ops (A vs).tmps) = false ∧ F undef w)
def AllF (Rs : List Fact) (vs : Nat → Value) (w : World) : Nat → List Fact → Prop
  | _, [] => True
  | i, F :: l => F (vs i) w ∧ AllF Rs vs w (i + 1) l
/-- What is left to be done, the facts of those before in Rs. -/
def SeqI (P : Program) (ops : Array Oper) (S : World → Prop) (Q : Exit → Act → World → Prop) (A : (Nat → Value) → Act) : List Oper → List Fact → Prop
  | [], Rs => ∀ vs w, S w → (∀ i, i < Rs.length → rsAt Rs i (vs i) w) → Q .normal (A vs) w
  | o :: l, Rs => ∃ F, Stable F ∧ ObI P ops S A Rs o F ∧ SeqI P ops S Q A l (Rs ++ [F])
theorem rsAt_app (Rs : List Fact) (F : Fact) (i : Nat) (h : i < Rs.length) : rsAt (Rs ++ [F]) i = rsAt Rs i := by
  unfold rsAt
  rw [List.getD_eq_getElem?_getD, List.getD_eq_getElem?_getD, List.getElem?_append_left h]
theorem SeqI.all {A : (Nat → Value) → Act} : ∀ (l : List Oper) (Rs : List Fact), SeqI P ops S Q A l Rs → (∀ i, i < Rs.length → Stable (rsAt Rs i)) →
    ∃ Rs' : List Fact, Rs'.length = Rs.length + l.length ∧ (∀ i, i < Rs.length → rsAt Rs' i = rsAt Rs i) ∧ (∀ i, i < Rs'.length → Stable (rsAt Rs' i)) ∧
      (∀ i o, l[i]? = some o → (∀ j ∈ depsOf o, j < Rs.length + i) → ObI P ops S A Rs' o (rsAt Rs' (Rs.length + i))) ∧
      (∀ vs w, S w → (∀ i, i < Rs'.length → rsAt Rs' i (vs i) w) → Q .normal (A vs) w) := by
  intro l
  induction l with
  | nil => intro Rs h hs; exact ⟨Rs, by simp, fun _ _ => rfl, hs, fun i o hi => by simp at hi, h⟩
  | cons o l ih =>
    intro Rs h hs
    obtain ⟨F, hF, hob, hr⟩ := h
    have hFl : rsAt (Rs ++ [F]) Rs.length = F := by unfold rsAt; simp
    obtain ⟨Rs', h1, h2, h3, h4, h5⟩ := ih (Rs ++ [F]) hr (fun i hi => by
      by_cases hi' : i < Rs.length
      · rw [rsAt_app Rs F i hi']; exact hs i hi'
      · have : i = Rs.length := by simp at hi; omega
        subst this; rw [hFl]; exact hF)
    refine ⟨Rs', by simp at h1 ⊢; omega, fun i hi => by rw [h2 i (by simp; omega), rsAt_app Rs F i hi], h3, ?_, h5⟩
    intro i o' hi hd
    cases i with
    | zero =>
      simp at hi; subst hi
      have e : rsAt Rs' (Rs.length + 0) = F := by rw [Nat.add_zero, h2 _ (by simp), hFl]
      rw [e]
      intro vs w hS hD
      refine hob vs w hS ?_
      have key : ∀ (m : List Nat), (∀ j ∈ m, j < Rs.length) → DepF Rs' vs w m → DepF Rs vs w m := by
        intro m
        induction m with
        | nil => intro _ _; trivial
        | cons j m ihm =>
          intro hj hD
          refine ⟨?_, ihm (fun k hk => hj k (List.mem_cons_of_mem _ hk)) hD.2⟩
          have := hD.1
          rw [h2 j (by have := hj j (List.mem_cons_self ..); simp; omega), rsAt_app Rs F j (hj j (List.mem_cons_self ..))] at this
          exact this
      exact key _ (fun j hj => by have := hd j hj; omega) hD
    | succ i =>
      simp at hi
      have := h4 i o' hi (fun j hj => by have := hd j hj; simp; omega)
      rw [show (Rs ++ [F]).length + i = Rs.length + (i + 1) by simp; omega] at this
      exact this
def putsL (vs : Nat → Value) : Nat → List Oper → Act → Act
  | _, [], a => a
  | i, o :: l, a => putsL vs (i + 1) l (a.put o.dst (vs i))
theorem puts_range (vs : Nat → Value) : ∀ (n m : Nat) (a : Act), m + n = ops.size → puts ops vs (List.range' m n) a = putsL vs m (ops.toList.drop m) a := by
  intro n
  induction n with
  | zero => intro m a h; rw [List.drop_of_length_le (by simp; omega)]; rfl
  | succ n ih =>
    intro m a h
    have hlt : m < ops.size := by omega
    rw [List.drop_eq_getElem_cons (by simpa using hlt), List.range'_succ]
    unfold puts putsL
    rw [ih (m + 1) _ (by omega)]
    simp [dstOf, hlt]
theorem full_putsL (a : Act) : full ops a = fun vs => putsL vs 0 ops.toList a := by
  funext vs
  unfold full
  rw [List.range_eq_range', puts_range vs ops.size 0 a (by omega)]; rfl
def depsBack (ops : Array Oper) : Bool := (List.range ops.size).all fun j => ((ops[j]?).map (·.after.all fun e => !Region.binds .any e || e.on < j)).getD false
/-! The steps -/
theorem stable_val (c : Value) : Stable (fun v _ => v = c) := fun _ _ _ _ h => h
variable {A : (Nat → Value) → Act} {l : List Oper} {Rs : List Fact} {o : Oper}
/-- A value that hangs on nothing. -/
theorem seqi_run (c : Value) (hw : ∀ vs w, DepA Rs vs w o.after.toList → Region.wanted o (yielded ops (A vs).tmps) = true)
    (h : ∀ vs w, S w → DepA Rs vs w o.after.toList → (execOp (A vs).eval o).run P w = .ok (.value c) w) (hr : SeqI P ops S Q A l (Rs ++ [fun v _ => v = c])) : SeqI P ops S Q A (o :: l) Rs :=
  ⟨_, stable_val c, fun vs w hS hD => .inl ⟨hw vs w hD.depA, by unfold OperR; rw [h vs w hS hD.depA]; exact ⟨rfl, Below.refl _ _⟩⟩, hr⟩
/-- A call. -/
theorem seqi_call (F : Fact) (hF : Stable F) {f : FuncId} (args : (Nat → Value) → Array Value) (hw : ∀ vs w, DepA Rs vs w o.after.toList → Region.wanted o (yielded ops (A vs).tmps) = true)
    (h : ∀ vs w, S w → DepA Rs vs w o.after.toList → (execOp (A vs).eval o).run P w = .ok (.enter f (args vs)) w)
    (hc : ∀ vs w, S w → DepA Rs vs w o.after.toList → Calls P f (args vs) w fun e w' => (∃ v, e = .returned v ∧ F v w') ∧ Below w.heap.size w w') (hr : SeqI P ops S Q A l (Rs ++ [F])) : SeqI P ops S Q A (o :: l) Rs :=
  ⟨F, hF, fun vs w hS hD => .inl ⟨hw vs w hD.depA, by unfold OperR; rw [h vs w hS hD.depA]; exact (hc vs w hS hD.depA).mono fun e w' ⟨⟨v, he, hv⟩, hB⟩ => ⟨v, he, hv, hB⟩⟩, hr⟩
theorem seqi_end (h : ∀ vs w, S w → AllF Rs vs w 0 Rs → Q .normal (A vs) w) : SeqI P ops S Q A [] Rs := by
  intro vs w hS hv
  refine h vs w hS ?_
  have key : ∀ (m : List Fact) (i : Nat), (∀ j, j < m.length → m.getD j (fun _ _ => True) (vs (i + j)) w) → AllF Rs vs w i m := by
    intro m
    induction m with
    | nil => intro _ _; trivial
    | cons F m ih =>
      intro i hj
      refine ⟨by have := hj 0 (by simp); simpa using this, ih (i + 1) fun j hj' => ?_⟩
      have := hj (j + 1) (by simpa using hj')
      rw [show i + (j + 1) = i + 1 + j by omega] at this
      simpa using this
  exact key Rs 0 fun j hj => by have := hv j hj; unfold rsAt at this; rw [Nat.zero_add]; exact this
end
end Go.Proofs.YtelanmknimapoaaGreatDoor
