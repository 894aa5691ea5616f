/- Merged: SeqI SeqO. -/
import Derived.Test.YtdhahiodnmmkeaaGreatDoorMgd
import Derived.Below
import Derived.Laws.AppendOwn
/- A region that draws its order, its operations done one after another in the text's order; each by what is known of those that it waits for. -/
namespace Go.Proofs.YtdhahiodnmmkeaaGreatDoor
open Go Go.RowKit
section
variable {P : Program} {ops : Array Oper} {Q : Exit → Act → World → Prop} {S : World → Prop} {a0 : Act}
abbrev Fact := Value → World → Prop
/-- What an operation does. -/
def OperR (P : Program) (o : Oper) (ρ : Operand → Value) (w : World) (F : Fact) : Prop :=
  match (execOp ρ o).run P w with
  | .ok (.value v) w' => F v w'
  | .ok .skip w' => F undef w'
  | .ok (.enter f args) w' => Calls P f args w' fun e w'' => ∃ v, e = .returned v ∧ F v w''
  | .ok (.row row args) w' => Rows P row args w' F
  | _ => False
theorem OperR.wp {o : Oper} {a : Act} {w : World} {F : Fact} (h : OperR P o a.eval w F) : o.wp P a w (fun a' w' => ∃ v, a' = a.put o.dst v ∧ F v w') NoWay := by
  unfold OperR at h
  unfold Oper.wp
  generalize (execOp a.eval o).run P w = r at *
  cases r with
  | halt x w' => exact h.elim
  | ok n w' =>
    cases n <;> simp only [Oper.upon] at h ⊢
    case value u => exact ⟨u, rfl, h⟩
    case skip => exact ⟨undef, rfl, h⟩
    case enter f args => exact Calls.mono h fun e w'' ⟨v, he, hF⟩ => by subst he; exact ⟨v, rfl, hF⟩
    case row row args => exact Rows.mono h fun v w'' hF => ⟨v, rfl, hF⟩
def rsAt (Rs : List Fact) (i : Nat) : Fact := Rs.getD i (fun _ _ => True)
def Stable (F : Fact) : Prop := ∀ v (w w' : World), Below w.heap.size w w' → F v w → F v w'
def DepF (Rs : List Fact) (vs : Nat → Value) (w : World) : List Nat → Prop
  | [] => True
  | j :: l => rsAt Rs j (vs j) w ∧ DepF Rs vs w l
def depsOf (o : Oper) : List Nat := (o.after.toList.filter (Region.binds .any)).map (·.on)
theorem DepF.of {Rs : List Fact} {vs : Nat → Value} {w : World} : ∀ (l : List Nat), (∀ j ∈ l, rsAt Rs j (vs j) w) → DepF Rs vs w l
  | [], _ => trivial
  | j :: l, h => ⟨h j (List.mem_cons_self ..), DepF.of l fun k hk => h k (List.mem_cons_of_mem _ hk)⟩
/-- The same, to be worked out by rewriting. -/
def isB : Ground → Bool
  | .data => true
  | .chain => true
  | .guard => true
  | .phase => true
  | .textOnly _ => false
  | .gcOnly _ => false
theorem isB_eq (e : Edge) : Region.binds .any e = isB e.ground := by
  unfold Region.binds
  cases e.ground <;> rfl
def DepA (Rs : List Fact) (vs : Nat → Value) (w : World) : List Edge → Prop
  | [] => True
  | e :: l => (isB e.ground = true → rsAt Rs e.on (vs e.on) w) ∧ DepA Rs vs w l
theorem DepF.depA {Rs : List Fact} {vs : Nat → Value} {w : World} {o : Oper} (h : DepF Rs vs w (depsOf o)) : DepA Rs vs w o.after.toList := by
  have key : ∀ l : List Edge, DepF Rs vs w ((l.filter (Region.binds .any)).map (·.on)) → DepA Rs vs w l := by
    intro l
    induction l with
    | nil => intro _; trivial
    | cons e l ih =>
      intro h
      rw [List.filter_cons] at h
      by_cases hb : Region.binds .any e = true
      · rw [if_pos hb] at h
        exact ⟨fun _ => h.1, ih h.2⟩
      · rw [if_neg hb] at h
        exact ⟨fun hc => absurd ((isB_eq e).trans hc) hb, ih h⟩
  exact key _ h
/-- One operation's part. -/
def ObI (P : Program) (ops : Array Oper) (S : World → Prop) (A : (Nat → Value) → Act) (Rs : List Fact) (o : Oper) (F : Fact) : Prop :=
  ∀ (vs : Nat → Value) (w : World), S w → DepF Rs vs w (depsOf o) →
    (Region.wanted o (yielded ops (A vs).tmps) = true ∧ OperR P o (A vs).eval w (fun v w' => F v w' ∧ Below w.heap.size w w')) ∨
    (Region.wanted o (yielded ops (A vs).tmps) = false ∧ F undef w)
def AllF (Rs : List Fact) (vs : Nat → Value) (w : World) : Nat → List Fact → Prop
  | _, [] => True
  | i, F :: l => F (vs i) w ∧ AllF Rs vs w (i + 1) l
/-- What is left to be done, the facts of those before in Rs. -/
def SeqI (P : Program) (ops : Array Oper) (S : World → Prop) (Q : Exit → Act → World → Prop) (A : (Nat → Value) → Act) : List Oper → List Fact → Prop
  | [], Rs => ∀ vs w, S w → (∀ i, i < Rs.length → rsAt Rs i (vs i) w) → Q .normal (A vs) w
  | o :: l, Rs => ∃ F, Stable F ∧ ObI P ops S A Rs o F ∧ SeqI P ops S Q A l (Rs ++ [F])
theorem rsAt_app (Rs : List Fact) (F : Fact) (i : Nat) (h : i < Rs.length) : rsAt (Rs ++ [F]) i = rsAt Rs i := by
  unfold rsAt
  rw [List.getD_eq_getElem?_getD, List.getD_eq_getElem?_getD, List.getElem?_append_left h]
theorem SeqI.all {A : (Nat → Value) → Act} : ∀ (l : List Oper) (Rs : List Fact), SeqI P ops S Q A l Rs → (∀ i, i < Rs.length → Stable (rsAt Rs i)) →
    ∃ Rs' : List Fact, Rs'.length = Rs.length + l.length ∧ (∀ i, i < Rs.length → rsAt Rs' i = rsAt Rs i) ∧ (∀ i, i < Rs'.length → Stable (rsAt Rs' i)) ∧
      (∀ i o, l[i]? = some o → (∀ j ∈ depsOf o, j < Rs.length + i) → ObI P ops S A Rs' o (rsAt Rs' (Rs.length + i))) ∧
      (∀ vs w, S w → (∀ i, i < Rs'.length → rsAt Rs' i (vs i) w) → Q .normal (A vs) w) := by
  intro l
  induction l with
  | nil => intro Rs h hs; exact ⟨Rs, by simp, fun _ _ => rfl, hs, fun i o hi => by simp at hi, h⟩
  | cons o l ih =>
    intro Rs h hs
    obtain ⟨F, hF, hob, hr⟩ := h
    have hFl : rsAt (Rs ++ [F]) Rs.length = F := by unfold rsAt; simp
    obtain ⟨Rs', h1, h2, h3, h4, h5⟩ := ih (Rs ++ [F]) hr (fun i hi => by
      by_cases hi' : i < Rs.length
      · rw [rsAt_app Rs F i hi']; exact hs i hi'
      · have : i = Rs.length := by simp at hi; omega
        subst this; rw [hFl]; exact hF)
    refine ⟨Rs', by simp at h1 ⊢; omega, fun i hi => by rw [h2 i (by simp; omega), rsAt_app Rs F i hi], h3, ?_, h5⟩
    intro i o' hi hd
    cases i with
    | zero =>
      simp at hi; subst hi
      have e : rsAt Rs' (Rs.length + 0) = F := by rw [Nat.add_zero, h2 _ (by simp), hFl]
      rw [e]
      intro vs w hS hD
      refine hob vs w hS ?_
      have key : ∀ (m : List Nat), (∀ j ∈ m, j < Rs.length) → DepF Rs' vs w m → DepF Rs vs w m := by
        intro m
        induction m with
        | nil => intro _ _; trivial
        | cons j m ihm =>
          intro hj hD
          refine ⟨?_, ihm (fun k hk => hj k (List.mem_cons_of_mem _ hk)) hD.2⟩
          have := hD.1
          rw [h2 j (by have := hj j (List.mem_cons_self ..); simp; omega), rsAt_app Rs F j (hj j (List.mem_cons_self ..))] at this
          exact this
      exact key _ (fun j hj => by have := hd j hj; omega) hD
    | succ i =>
      simp at hi
      have := h4 i o' hi (fun j hj => by have := hd j hj; simp; omega)
      rw [show (Rs ++ [F]).length + i = Rs.length + (i + 1) by simp; omega] at this
      exact this
def putsL (vs : Nat → Value) : Nat → List Oper → Act → Act
  | _, [], a => a
  | i, o :: l, a => putsL vs (i + 1) l (a.put o.dst (vs i))
theorem puts_range (vs : Nat → Value) : ∀ (n m : Nat) (a : Act), m + n = ops.size → puts ops vs (List.range' m n) a = putsL vs m (ops.toList.drop m) a := by
  intro n
  induction n with
  | zero => intro m a h; rw [List.drop_of_length_le (by simp; omega)]; rfl
  | succ n ih =>
    intro m a h
    have hlt : m < ops.size := by omega
    rw [List.drop_eq_getElem_cons (by simpa using hlt), List.range'_succ]
    unfold puts putsL
    rw [ih (m + 1) _ (by omega)]
    simp [dstOf, hlt]
theorem full_putsL (a : Act) : full ops a = fun vs => putsL vs 0 ops.toList a := by
  funext vs
  unfold full
  rw [List.range_eq_range', puts_range vs ops.size 0 a (by omega)]; rfl
def depsBack (ops : Array Oper) : Bool := (List.range ops.size).all fun j => ((ops[j]?).map (·.after.all fun e => !Region.binds .any e || e.on < j)).getD false
/-- The region. -/
theorem wp_region_seqi {id : Nat} {a : Act} {w : World} (S : World → Prop) (hst : ∀ w w', Below w.heap.size w w' → S w → S w') (hm : P.follows Departure.mixedOrders = true) (hd : dstsApart ops = true) (hc : depsBack ops = true)
    (hS : S { w with drawn := w.drawn + 1 }) (h : SeqI P ops S Q (fun vs => putsL vs 0 ops.toList a) ops.toList []) : (Code.region id ops true).wp P Q a w := by
  rw [← full_putsL] at h
  obtain ⟨Rs, h1, _, h3, h4, h5⟩ := SeqI.all ops.toList [] h (fun i hi => by simp at hi)
  simp only [List.length_nil, Nat.zero_add, Array.length_toList] at h1 h4
  have hback : ∀ i o, ops[i]? = some o → ∀ j ∈ depsOf o, j < i := by
    intro i o ho j hj
    obtain ⟨hlt, he⟩ := Array.getElem?_eq_some_iff.1 ho
    have h1 := List.all_eq_true.1 hc i (List.mem_range.2 hlt)
    rw [ho] at h1
    simp only [Option.map_some, Option.getD_some, Array.all_eq_true_iff_forall_mem] at h1
    obtain ⟨e, hem, rfl⟩ := List.mem_map.1 hj
    obtain ⟨hem1, hem2⟩ := List.mem_filter.1 hem
    have := h1 e (by simpa using hem1)
    rw [hem2] at this
    simpa using this
  refine wp_region_inv S (fun _ w w' => Below w.heap.size w w') (fun _ i v w => rsAt Rs i v w) hm hd hc (fun T i j v w w' _ _ _ hB hv => ?_) hS ?_ ?_
  · by_cases hj : j < Rs.length
    · exact h3 j hj v w w' hB hv
    · have e : rsAt Rs j = fun _ _ => True := by unfold rsAt; rw [List.getD_eq_getElem?_getD, List.getElem?_eq_none (by omega)]; rfl
      rw [e]; trivial
  · intro i hi vs T w o ho _ hSw hdep
    have ho' : ops.toList[i]? = some o := by simpa using ho
    have := h4 i o ho' (hback i o ho) vs w hSw (DepF.of _ fun j hj => by
      obtain ⟨e, hem, rfl⟩ := List.mem_map.1 hj
      obtain ⟨hem1, hem2⟩ := List.mem_filter.1 hem
      exact hdep e (by simpa using hem1) hem2)
    rcases this with ⟨hw, hr⟩ | ⟨hw, hF⟩
    · refine .inl ⟨hw, ?_⟩
      have h7 := OperR.wp hr
      unfold Oper.wp at h7 ⊢
      exact upon_way h7 (fun u w' ⟨v, e1, e2, e3⟩ => ⟨v, e1, e2, hst _ _ e3 hSw, e3⟩) (fun d w' ⟨v, e1, _⟩ => by have h1 := congrArg (fun x => x.defers.length) e1; simp [put_def] at h1)
    · exact .inr ⟨hw, hF, Below.refl _ _⟩
  · intro vs T w hSw _ hv
    exact h5 vs w hSw fun i hi => hv i (by omega)
/-! The steps -/
theorem stable_val (c : Value) : Stable (fun v _ => v = c) := fun _ _ _ _ h => h
variable {A : (Nat → Value) → Act} {l : List Oper} {Rs : List Fact} {o : Oper}
/-- A value that hangs on nothing. -/
theorem seqi_run (c : Value) (hw : ∀ vs w, DepA Rs vs w o.after.toList → Region.wanted o (yielded ops (A vs).tmps) = true)
    (h : ∀ vs w, S w → DepA Rs vs w o.after.toList → (execOp (A vs).eval o).run P w = .ok (.value c) w) (hr : SeqI P ops S Q A l (Rs ++ [fun v _ => v = c])) : SeqI P ops S Q A (o :: l) Rs :=
  ⟨_, stable_val c, fun vs w hS hD => .inl ⟨hw vs w hD.depA, by unfold OperR; rw [h vs w hS hD.depA]; exact ⟨rfl, Below.refl _ _⟩⟩, hr⟩
/-- A call. -/
theorem seqi_call (F : Fact) (hF : Stable F) {f : FuncId} (args : (Nat → Value) → Array Value) (hw : ∀ vs w, DepA Rs vs w o.after.toList → Region.wanted o (yielded ops (A vs).tmps) = true)
    (h : ∀ vs w, S w → DepA Rs vs w o.after.toList → (execOp (A vs).eval o).run P w = .ok (.enter f (args vs)) w)
    (hc : ∀ vs w, S w → DepA Rs vs w o.after.toList → Calls P f (args vs) w fun e w' => (∃ v, e = .returned v ∧ F v w') ∧ Below w.heap.size w w') (hr : SeqI P ops S Q A l (Rs ++ [F])) : SeqI P ops S Q A (o :: l) Rs :=
  ⟨F, hF, fun vs w hS hD => .inl ⟨hw vs w hD.depA, by unfold OperR; rw [h vs w hS hD.depA]; exact (hc vs w hS hD.depA).mono fun e w' ⟨⟨v, he, hv⟩, hB⟩ => ⟨v, he, hv, hB⟩⟩, hr⟩
/-- Anything else. -/
theorem seqi_oper (F : Fact) (hF : Stable F) (hw : ∀ vs w, DepA Rs vs w o.after.toList → Region.wanted o (yielded ops (A vs).tmps) = true)
    (h : ∀ vs w, S w → DepA Rs vs w o.after.toList → OperR P o (A vs).eval w (fun v w' => F v w' ∧ Below w.heap.size w w')) (hr : SeqI P ops S Q A l (Rs ++ [F])) : SeqI P ops S Q A (o :: l) Rs :=
  ⟨F, hF, fun vs w hS hD => .inl ⟨hw vs w hD.depA, h vs w hS hD.depA⟩, hr⟩
theorem seqi_end (h : ∀ vs w, S w → AllF Rs vs w 0 Rs → Q .normal (A vs) w) : SeqI P ops S Q A [] Rs := by
  intro vs w hS hv
  refine h vs w hS ?_
  have key : ∀ (m : List Fact) (i : Nat), (∀ j, j < m.length → m.getD j (fun _ _ => True) (vs (i + j)) w) → AllF Rs vs w i m := by
    intro m
    induction m with
    | nil => intro _ _; trivial
    | cons F m ih =>
      intro i hj
      refine ⟨by have := hj 0 (by simp); simpa using this, ih (i + 1) fun j hj' => ?_⟩
      have := hj (j + 1) (by simpa using hj')
      rw [show i + (j + 1) = i + 1 + j by omega] at this
      simpa using this
  exact key Rs 0 fun j hj => by have := hv j hj; unfold rsAt at this; rw [Nat.zero_add]; exact this
end
end Go.Proofs.YtdhahiodnmmkeaaGreatDoor
/- A region that draws its order and holds appends and stores to memory of its own: what is known of a value may be eaten by a later operation; each own value has a block of its own. -/
namespace Go.Proofs.YtdhahiodnmmkeaaGreatDoor
open Go Go.RowKit
section
variable {P : Program} {ops : Array Oper} {Q : Exit → Act → World → Prop} {md : Region.Mode}
/-- The region by one condition on all that has come up. -/
theorem wpAny_glob (hd : dstsApart ops = true) (I : (Nat → Bool) → (Nat → Value) → World → Prop) (a0 : Act)
    (hob : ∀ i o vs T w, ops[i]? = some o → T i = false → (∀ e ∈ o.after, Region.binds md e = true → T e.on = true) → I T vs w →
      (Region.wanted o (yielded ops (full ops a0 vs).tmps) = true ∧ o.wp P (full ops a0 vs) w (fun a' w' => ∃ v, a' = (full ops a0 vs).put o.dst v ∧ I (updB T i) (upd vs i v) w') NoWay) ∨
      (Region.wanted o (yielded ops (full ops a0 vs).tmps) = false ∧ I (updB T i) (upd vs i undef) w))
    (hend : ∀ vs T w, (∀ i, i < ops.size → T i = true) → I T vs w → Q .normal (full ops a0 vs) w)
    (hback : ∀ i o, ops[i]? = some o → ∀ e ∈ o.after, Region.binds md e = true → e.on < i) :
    ∀ (n : Nat) (l : List Nat) (listed : Array Bool) (vs : Nat → Value) (w : World), l.length = n → l.Pairwise (· < ·) → (∀ i, i ∈ l ↔ (i < ops.size ∧ listed.getD i true = false)) → listed.size = ops.size →
      I (fun k => listed.getD k false) vs w → wpAny P md ops Q n listed (full ops a0 vs) w := by
  have gf : ∀ (L : Array Bool) (i : Nat), L.size = ops.size → i < ops.size → (L.getD i false = true ↔ ¬ L.getD i true = false) := by
    intro L i hL hi
    have : i < L.size := by omega
    simp [this]
  have hdd : ∀ i j, i < ops.size → j < ops.size → j ≠ i → ∀ d, dstOf ops i = some d → dstOf ops j ≠ some d := by
    intro i j hi hj hne d hdi
    have h1 := List.all_eq_true.1 (List.all_eq_true.1 hd i (List.mem_range.2 hi)) j (List.mem_range.2 hj)
    rw [hdi] at h1
    simp only [Bool.or_eq_true, beq_iff_eq, bne_iff_ne, ne_eq, reduceCtorEq, or_false, hne, false_or] at h1
    exact h1
  intro n
  induction n with
  | zero =>
    intro l listed vs w hn hp hm hz hI
    have hl : l = [] := List.length_eq_zero_iff.1 hn
    subst hl
    have hall : ∀ i, i < ops.size → listed.getD i false = true := fun i hi => (gf listed i hz hi).2 fun hc => absurd ((hm i).2 ⟨hi, hc⟩) (by simp)
    refine ⟨?_, hend vs (fun k => listed.getD k false) w hall hI⟩
    apply List.eq_nil_iff_forall_not_mem.2
    intro i hi
    obtain ⟨g1, o, g2, _⟩ := mem_ready.1 hi
    exact absurd ((hm i).2 ⟨(Array.getElem?_eq_some_iff.1 g2).1, g1⟩) (by simp)
  | succ n ih =>
    intro l listed vs w hn hp hm hz hI
    refine ⟨fun hr => ?_, fun i hi => ?_⟩
    · exfalso
      obtain ⟨i, l', rfl⟩ : ∃ i l', l = i :: l' := by
        cases l with
        | nil => simp at hn
        | cons i l' => exact ⟨i, l', rfl⟩
      obtain ⟨hlt, hun⟩ := (hm i).1 (List.mem_cons_self ..)
      have : i ∈ Region.ready md ops listed := mem_ready.2 ⟨hun, ops[i], Array.getElem?_eq_getElem hlt, fun e he hb => by
        have h1 := hback i _ (Array.getElem?_eq_getElem hlt) e he hb
        rw [gf listed e.on hz (by omega)]
        intro hc'
        have h2 := (hm e.on).2 ⟨by omega, hc'⟩
        rcases List.mem_cons.1 h2 with h3 | h3
        · omega
        · have := List.rel_of_pairwise_cons hp h3; omega⟩
      rw [hr] at this
      cases this
    · obtain ⟨g1, oi, g2, g3⟩ := mem_ready.1 hi
      have hlt : i < ops.size := (Array.getElem?_eq_some_iff.1 g2).1
      obtain ⟨pre, post, rfl⟩ := List.append_of_mem ((hm i).2 ⟨hlt, g1⟩)
      have hpp := List.pairwise_append.1 hp
      have hpc := List.pairwise_cons.1 hpp.2.1
      have hTi : listed.getD i false = false := by
        rw [← Bool.not_eq_true, gf listed i hz hlt]
        exact fun h => h g1
      have hobi := hob i oi vs (fun k => listed.getD k false) w g2 hTi (fun e he hb => g3 e he hb) hI
      have hdst : dstOf ops i = oi.dst := by unfold dstOf; rw [g2]; rfl
      have hset : (fun k => (listed.setIfInBounds i true).getD k false) = updB (fun k => listed.getD k false) i := by
        funext k
        unfold updB
        by_cases hk : k = i
        · subst hk; rw [if_pos rfl]; have : k < listed.size := by omega
          simp [this]
        · rw [if_neg hk, getD_set_ne false (Ne.symm hk)]
      have hnext : ∀ v w', I (updB (fun k => listed.getD k false) i) (upd vs i v) w' → wpAny P md ops Q n (listed.setIfInBounds i true) ((full ops a0 vs).put oi.dst v) w' := by
        intro v w' hI'
        have e1 : (full ops a0 vs).put oi.dst v = full ops a0 (upd vs i v) := by
          rw [← hdst]
          exact (puts_upd vs i v _ a0 List.nodup_range (fun j hj hne => hdd i j hlt (List.mem_range.1 hj) hne) (List.mem_range.2 hlt)).symm
        rw [e1]
        refine ih (pre ++ post) _ _ w' (by simp at hn ⊢; omega) ?_ ?_ (by simp [hz]) (by rw [hset]; exact hI')
        · exact List.pairwise_append.2 ⟨hpp.1, hpc.2, fun x hx y hy => hpp.2.2 x hx y (List.mem_cons_of_mem _ hy)⟩
        · intro j
          by_cases hji : i = j
          · subst hji
            constructor
            · intro hj
              exfalso
              rcases List.mem_append.1 hj with hj | hj
              · have := hpp.2.2 i hj i (List.mem_cons_self ..); omega
              · have := hpc.1 i hj; omega
            · rintro ⟨_, hj⟩
              have : i < listed.size := by omega
              simp [this] at hj
          · rw [getD_set_ne true hji, ← hm j]
            simp only [List.mem_append, List.mem_cons]
            constructor
            · rintro (h | h)
              · exact .inl h
              · exact .inr (.inr h)
            · rintro (h | h | h)
              · exact .inl h
              · exact absurd h.symm hji
              · exact .inr h
      unfold wpOp
      rcases hobi with ⟨hw, hwp⟩ | ⟨hw, hIu⟩
      rotate_left
      · simp only [g2, hw, Bool.false_eq_true, if_false]
        exact hnext undef w hIu
      simp only [g2, hw, if_true]
      refine .inl ?_
      unfold Oper.wp at *
      exact upon_way hwp (fun u w' ⟨v, h4, h5⟩ => by rw [h4]; exact hnext v w' h5)
        (fun d w' ⟨v, h4, _⟩ => by have h1 := congrArg (fun x => x.defers.length) h4; simp [put_def] at h1)
/-- What is said of one operation: the fact on its value while it lives, the block that is its own, the values that it eats, and those that its fact speaks of. -/
structure OSpec where
  F : (Nat → Value) → Value → World → Prop
  blk : (Nat → Value) → Value → Option Nat
  eats : List Nat
  uses : List Nat
def Live (sp : Nat → OSpec) (T : Nat → Bool) (j : Nat) : Prop := T j = true ∧ ∀ k, T k = true → j ∉ (sp k).eats
def InvO (S : World → Prop) (Z : Nat) (sp : Nat → OSpec) (T : Nat → Bool) (vs : Nat → Value) (w : World) : Prop :=
  S w ∧ Z ≤ w.heap.size ∧ (∀ j, Live sp T j → (sp j).F vs (vs j) w) ∧ (∀ j g, Live sp T j → (sp j).blk vs (vs j) = some g → Z ≤ g ∧ g < w.heap.size) ∧
  (∀ i j g, i ≠ j → Live sp T i → Live sp T j → (sp i).blk vs (vs i) = some g → (sp j).blk vs (vs j) ≠ some g)
/-- What an operation leaves. -/
def Leaves (sp : Nat → OSpec) (i : Nat) (vs : Nat → Value) (w : World) (v : Value) (w' : World) : Prop :=
  ∃ G : Option Nat, w.grownBy w' G ∧ (∀ g, G = some g → ∃ j, j ∈ (sp i).eats ∧ (sp j).blk vs (vs j) = some g) ∧ (sp i).F vs v w' ∧
    (∀ g, (sp i).blk vs v = some g → g < w'.heap.size ∧ (w.heap.size ≤ g ∨ ∃ j, j ∈ (sp i).eats ∧ (sp j).blk vs (vs j) = some g))
theorem InvO.next {S : World → Prop} {Z : Nat} {sp : Nat → OSpec} {T : Nat → Bool} {vs : Nat → Value} {w w' : World} {i : Nat} {v : Value}
    (hS : ∀ w w', Below Z w w' → S w → S w')
    (hF : ∀ j vs v w w', (∀ k, k < w.heap.size → (k < Z ∨ (sp j).blk vs v = some k) → w'.heap[k]? = w.heap[k]?) → w.heap.size ≤ w'.heap.size → (sp j).F vs v w → (sp j).F vs v w')
    (hFd : ∀ j vs vs' v w, (∀ k ∈ (sp j).uses, vs k = vs' k) → (sp j).F vs v w → (sp j).F vs' v w) (hBd : ∀ j vs vs' v, (∀ k ∈ (sp j).uses, vs k = vs' k) → (sp j).blk vs v = (sp j).blk vs' v)
    (hu : ∀ j, T j = true ∨ j = i → ∀ k ∈ (sp j).uses, k ≠ i) (he : ∀ j ∈ (sp i).eats, Live sp T j) (hni : i ∉ (sp i).eats) (hi : T i = false)
    (h : InvO S Z sp T vs w) (hl : Leaves sp i vs w v w') : InvO S Z sp (updB T i) (upd vs i v) w' := by
  obtain ⟨h1, h2, h3, h4, h5⟩ := h
  obtain ⟨G, hg, hG, hFi, hB⟩ := hl
  have hsz := hg.size
  have hGZ : ∀ g, G = some g → Z ≤ g ∧ g < w.heap.size := fun g e => by
    obtain ⟨j, hj, hb⟩ := hG g e
    exact h4 j g (he j hj) hb
  have hbel : Below Z w w' := (Below.refl Z w).grown hg h2 (fun k hk => (hGZ k hk).1)
  have hvs : ∀ j, T j = true ∨ j = i → ∀ k ∈ (sp j).uses, vs k = upd vs i v k := fun j hj k hk => by
    have := hu j hj k hk
    unfold upd; rw [if_neg this]
  have hold : ∀ j, j ≠ i → Live sp (updB T i) j → Live sp T j ∧ j ∉ (sp i).eats := by
    intro j hj hl
    refine ⟨⟨?_, fun k hk => hl.2 k ?_⟩, hl.2 i ?_⟩
    · have := hl.1; unfold updB at this; rwa [if_neg hj] at this
    · unfold updB; split <;> simp_all
    · unfold updB; rw [if_pos rfl]
  have hval : ∀ j, j ≠ i → upd vs i v j = vs j := fun j hj => by unfold upd; rw [if_neg hj]
  have hvi : upd vs i v i = v := by unfold upd; rw [if_pos rfl]
  have hblk : ∀ j, T j = true ∨ j = i → ∀ u, (sp j).blk (upd vs i v) u = (sp j).blk vs u := fun j hj u => (hBd j vs (upd vs i v) u (hvs j hj)).symm
  have hfar : ∀ j g, j ≠ i → Live sp (updB T i) j → (sp j).blk vs (vs j) = some g → G ≠ some g := by
    intro j g hj hl hb e
    obtain ⟨l1, l2⟩ := hold j hj hl
    obtain ⟨j', hj', hb'⟩ := hG g e
    by_cases hjj : j = j'
    · subst hjj; exact l2 hj'
    · exact h5 j j' g hjj l1 (he j' hj') hb hb'
  refine ⟨hS _ _ hbel h1, by omega, fun j hl => ?_, fun j g hl hb => ?_, fun p q g hpq hp hq hbp hbq => ?_⟩
  · by_cases hj : j = i
    · subst hj
      rw [hvi]
      exact hFd j vs _ v w' (hvs j (.inr rfl)) hFi
    · obtain ⟨l1, l2⟩ := hold j hj hl
      rw [hval j hj]
      refine hFd j vs _ _ w' (hvs j (.inl l1.1)) (hF j vs (vs j) w w' (fun k hk hkz => ?_) hsz (h3 j l1))
      refine hg.block k hk ?_
      rcases hkz with hkz | hkz
      · intro e; have := (hGZ k e.symm).1; omega
      · exact fun e => hfar j k hj hl hkz e.symm
  · by_cases hj : j = i
    · subst hj
      rw [hvi, hblk j (.inr rfl)] at hb
      obtain ⟨b1, b2⟩ := hB g hb
      refine ⟨?_, b1⟩
      rcases b2 with b2 | ⟨j', hj', hb'⟩
      · omega
      · exact (h4 j' g (he j' hj') hb').1
    · obtain ⟨l1, l2⟩ := hold j hj hl
      rw [hval j hj, hblk j (.inl l1.1)] at hb
      have := h4 j g l1 hb
      exact ⟨this.1, by omega⟩
  · -- two own values
    have key : ∀ j, j ≠ i → Live sp (updB T i) j → (sp j).blk vs (vs j) = some g → (sp i).blk vs v = some g → False := by
      intro j hj hl hb hbi
      obtain ⟨l1, l2⟩ := hold j hj hl
      obtain ⟨_, b2⟩ := hB g hbi
      rcases b2 with b2 | ⟨j', hj', hb'⟩
      · have := (h4 j g l1 hb).2; omega
      · by_cases hjj : j = j'
        · subst hjj; exact l2 hj'
        · exact h5 j j' g hjj l1 (he j' hj') hb hb'
    by_cases hpi : p = i
    · subst hpi
      have hqi : q ≠ p := Ne.symm hpq
      obtain ⟨l1, _⟩ := hold q hqi hq
      rw [hvi, hblk p (.inr rfl)] at hbp
      rw [hval q hqi, hblk q (.inl l1.1)] at hbq
      exact key q hqi hq hbq hbp
    · obtain ⟨l1, _⟩ := hold p hpi hp
      rw [hval p hpi, hblk p (.inl l1.1)] at hbp
      by_cases hqi : q = i
      · subst hqi
        rw [hvi, hblk q (.inr rfl)] at hbq
        exact key p hpi hp hbp hbq
      · obtain ⟨l2, _⟩ := hold q hqi hq
        rw [hval q hqi, hblk q (.inl l2.1)] at hbq
        exact h5 p q g hpq l1 l2 hbp hbq
def depsAt (ops : Array Oper) (i : Nat) : List Nat := ((ops[i]?).map depsOf).getD []
/-- What an operation's fact says, and its own block. -/
abbrev FB := ((Nat → Value) → Value → World → Prop) × ((Nat → Value) → Value → Option Nat)
def dflFB : FB := (fun _ _ _ => True, fun _ _ => none)
def spOf (L : List FB) (E U : List (List Nat)) (i : Nat) : OSpec := ⟨(L.getD i dflFB).1, (L.getD i dflFB).2, E.getD i [], U.getD i []⟩
def GoodO (Z : Nat) (x : FB) (u : List Nat) : Prop :=
  (∀ vs v w w', (∀ k, k < w.heap.size → (k < Z ∨ x.2 vs v = some k) → w'.heap[k]? = w.heap[k]?) → w.heap.size ≤ w'.heap.size → x.1 vs v w → x.1 vs v w') ∧
  (∀ vs vs' v w, (∀ k ∈ u, vs k = vs' k) → x.1 vs v w → x.1 vs' v w) ∧ (∀ vs vs' v, (∀ k ∈ u, vs k = vs' k) → x.2 vs v = x.2 vs' v)
def AllGood (Z : Nat) : List FB → List (List Nat) → Prop
  | [], _ => True
  | x :: l, [] => GoodO Z x [] ∧ AllGood Z l []
  | x :: l, u :: us => GoodO Z x u ∧ AllGood Z l us
theorem GoodO.dfl (Z : Nat) (u : List Nat) : GoodO Z dflFB u := ⟨fun _ _ _ _ _ _ _ => trivial, fun _ _ _ _ _ _ => trivial, fun _ _ _ _ => rfl⟩
theorem AllGood.at {Z : Nat} : ∀ (L : List FB) (U : List (List Nat)), AllGood Z L U → ∀ i, GoodO Z (L.getD i dflFB) (U.getD i [])
  | [], U, _, i => by simp only [List.getD_nil]; exact GoodO.dfl _ _
  | x :: l, [], h, 0 => h.1
  | x :: l, [], h, i + 1 => by have := AllGood.at l [] h.2 i; simpa using this
  | x :: l, u :: us, h, 0 => h.1
  | x :: l, u :: us, h, i + 1 => by have := AllGood.at l us h.2 i; simpa using this
variable {S : World → Prop} {Z : Nat} {L : List FB} {E U D : List (List Nat)} {A : (Nat → Value) → Act} {l : List Oper} {o : Oper} {i : Nat}
def DepO (L : List FB) (vs : Nat → Value) (w : World) : List Nat → Prop
  | [] => True
  | j :: l => (L.getD j dflFB).1 vs (vs j) w ∧ DepO L vs w l
def EndO (L : List FB) (E : List (List Nat)) (vs : Nat → Value) (w : World) : Nat → List FB → Prop
  | _, [] => True
  | i, x :: l => ((E.all fun m => !m.contains i) = true → x.1 vs (vs i) w) ∧ EndO L E vs w (i + 1) l
/-- One operation's part. -/
def ObO (P : Program) (ops : Array Oper) (S : World → Prop) (Z : Nat) (L : List FB) (E U D : List (List Nat)) (A : (Nat → Value) → Act) (i : Nat) (o : Oper) : Prop :=
  ∀ vs w, S w → Z ≤ w.heap.size → DepO L vs w (D.getD i []) →
    (Region.wanted o (yielded ops (A vs).tmps) = true ∧ OperR P o (A vs).eval w (fun v w' => Leaves (spOf L E U) i vs w v w')) ∨
    (Region.wanted o (yielded ops (A vs).tmps) = false ∧ Leaves (spOf L E U) i vs w undef w)
def SeqO (P : Program) (ops : Array Oper) (S : World → Prop) (Z : Nat) (L : List FB) (E U D : List (List Nat)) (Q : Exit → Act → World → Prop) (A : (Nat → Value) → Act) : Nat → List Oper → Prop
  | _, [] => ∀ vs w, S w → Z ≤ w.heap.size → EndO L E vs w 0 L → Q .normal (A vs) w
  | i, o :: l => ObO P ops S Z L E U D A i o ∧ SeqO P ops S Z L E U D Q A (i + 1) l
theorem SeqO.at : ∀ (l : List Oper) (i : Nat), SeqO P ops S Z L E U D Q A i l → (∀ k o, l[k]? = some o → ObO P ops S Z L E U D A (i + k) o) ∧ ∀ vs w, S w → Z ≤ w.heap.size → EndO L E vs w 0 L → Q .normal (A vs) w
  | [], i, h => ⟨fun k o hk => by simp at hk, h⟩
  | o :: l, i, h => by
    obtain ⟨h1, h2⟩ := SeqO.at l (i + 1) h.2
    refine ⟨fun k o' hk => ?_, h2⟩
    cases k with
    | zero => simp at hk; subst hk; exact h.1
    | succ k => have := h1 k o' (by simpa using hk); rw [show i + (k + 1) = i + 1 + k by omega]; exact this
end
end Go.Proofs.YtdhahiodnmmkeaaGreatDoor
