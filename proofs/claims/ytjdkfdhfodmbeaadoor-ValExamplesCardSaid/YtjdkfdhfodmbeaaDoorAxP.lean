/- An executor of closed runs: calls. -/
import Derived.Test.YtjdkfdhfodmbeaaDoorAxO
namespace Go.Proofs.YtjdkfdhfodmbeaaDoor.Ax
open Go
variable {P : Program} {G : Nat}

theorem CRel.run {hp : Hp} {ρ : Rho} {w : World} {cr : CR} {s s' : Sem Next} (e : ∀ w, s'.run P w = s.run P w) (h : CRel P G hp ρ w cr s) : CRel P G hp ρ w cr s' := by
  cases cr with
  | no => trivial
  | val u q =>
    obtain ⟨e', nx, v1, ρ1, w1, g1, g2⟩ := h
    exact ⟨e', nx, v1, ρ1, w1, (e w).trans g1, g2⟩
  | enter g args =>
    obtain ⟨a', g1, g2⟩ := h
    exact ⟨a', (e w).trans g1, g2⟩
  | yield l args =>
    obtain ⟨g0, a', g1, g2⟩ := h
    exact ⟨g0, a', g1, (e w).trans g2⟩

theorem extract_tail (v : Value) (l : List Value) : (⟨v :: l⟩ : Array Value).extract 1 (⟨v :: l⟩ : Array Value).size = ⟨l⟩ := by
  apply Array.ext'
  simp

theorem callMethodIface_ok {hp : Hp} {ρ : Rho} {w : World} {N : Nat} {name : String} {r r' : Value} {rest rest' : List Value} (c : Ctx P G hp ρ w N) (hv : VR ρ r r') (hl : LR ρ rest rest') :
    CRel P G hp ρ w (onIface r .no .no fun t v => xmethod P t v name rest hp) (callMethod r' name ⟨rest'⟩) := by
  cases hv <;> try trivial
  rename_i t v v' hv
  exact callMethod_ok c hv hl

theorem xcallMethod_ok {hp : Hp} {ρ : Rho} {w : World} {N : Nat} {name : String} {cap : Array Value} {args args' : List Value} (c : Ctx P G hp ρ w N) (hl : LR ρ args args') :
    CRel P G hp ρ w (xcallMethod P name args hp) (invoke (.fn (.method name) cap) ⟨args'⟩) := by
  cases hl with
  | nil => trivial
  | cons r r' l l' hr hl =>
    refine CRel.run (s := callMethod r' name ⟨l'⟩) (fun w => ?_) (callMethodIface_ok c hr hl)
    show (callMethod r' name (Array.extract ⟨r' :: l'⟩ 1 _)).run P w = _
    rw [extract_tail]

theorem recvVia_run {t : TypeId} {ptr : Bool} {v u : Value} {w : World} (hr : ∀ wr, (receiverAt t (.val v) ptr wr).run P w = .ok u w) : (receiverVia t v #[] ptr).run P w = .ok u w := by
  unfold receiverVia
  rw [Sem.run_bind]
  simp only [follow, Sem.run_pure, Result.andThen_ok]
  exact hr none

theorem xinvoke_ok {hp : Hp} {ρ : Rho} {w : World} {N : Nat} {fn : Fn} {cap cap' args args' : List Value} (c : Ctx P G hp ρ w N) (hy : noYield fn = true) (hc : LR ρ cap cap') (hl : LR ρ args args') :
    CRel P G hp ρ w (xinvoke P fn cap args hp) (invoke (.fn fn ⟨cap'⟩) ⟨args'⟩) := by
  cases fn with
  | func f =>
    refine CRel.run (s := callFunc f ⟨args' ++ cap'⟩) (fun w => ?_) (callFunc_ok (f := f) c (hl.append hc))
    show (callFunc f (⟨args'⟩ ++ ⟨cap'⟩)).run P w = _
    congr 2
    apply Array.ext'; simp
  | method name => exact xcallMethod_ok c hl
  | methodOf t name =>
    cases hl with
    | nil => trivial
    | cons r r' l l' hr hl =>
      show CRel P G hp ρ w (match P.underlying t with
        | some (.interface _) => xcallMethod P name (r :: l) hp
        | some _ => xmethod P t r name l hp
        | none => .no) _
      have he : ∀ (d : TypeDesc), P.underlying t = some d → ∀ w, (invoke (.fn (.methodOf t name) ⟨cap'⟩) ⟨r' :: l'⟩).run P w = (callMethod (match d with | .interface _ => r' | _ => .iface t r') name ⟨l'⟩).run P w := fun d hd w => by
        show ((underlying t >>= fun d => callMethod (match d with | .interface _ => r' | _ => .iface t r') name (Array.extract ⟨r' :: l'⟩ 1 _)) : Sem Next).run P w = _
        rw [Sem.run_bind, run_underlying hd, Result.andThen_ok, extract_tail]
      cases hu : P.underlying t with
      | none => trivial
      | some d =>
        have h1 := callMethodIface_ok (name := name) c hr hl
        have h2 := callMethod_ok (t := t) (name := name) c hr hl
        cases d <;> first
          | exact CRel.run (he _ hu) h2
          | exact CRel.run (he _ hu) h1
  | via t path f ptr =>
    cases hp0 : path.toList with
    | cons a b =>
      have : xinvoke P (.via t path f ptr) cap args hp = .no := by unfold xinvoke; simp only [hp0]
      rw [this]; trivial
    | nil =>
      have hpath : path = #[] := by apply Array.ext'; rw [hp0]
      have e1 : xinvoke P (.via t path f ptr) cap args hp = onHead args fun r rest => withRecv P t ptr r hp fun r => xcallFunc P f (r :: rest) hp := by unfold xinvoke; simp only [hp0]
      rw [e1]
      cases hl with
      | nil => trivial
      | cons r r' l l' hr hl =>
        show CRel P G hp ρ w (withRecv P t ptr r hp fun r => xcallFunc P f (r :: l) hp) _
        rcases withRecv_ok (t := t) (ptr := ptr) c.sat hr (fun r => xcallFunc P f (r :: l) hp) with e | ⟨u, u', e, hu, hrr⟩
        · rw [e]; trivial
        · rw [e]
          refine CRel.run1 (s := callFunc f ⟨u' :: l'⟩) ?_ (callFunc_ok (f := f) c (LR.cons _ _ _ _ hu hl))
          show ((receiverVia t r' path ptr >>= fun x => callFunc f (#[x] ++ Array.extract ⟨r' :: l'⟩ 1 _)) : Sem Next).run P w = _
          rw [Sem.run_bind, hpath, recvVia_run hrr, Result.andThen_ok, extract_tail]
          congr 2
          apply Array.ext'; simp
  | yield l => cases hy

/-- A call of a value. -/
def callV (f : Value) (args : Array Value) : Sem Next := do let d ← Deferred.ofValue f args; invoke d.target d.args

theorem xcallV_ok {hp : Hp} {ρ : Rho} {w : World} {N : Nat} {f f' : Value} {args args' : List Value} (c : Ctx P G hp ρ w N) (hf : VR ρ f f') (hl : LR ρ args args') :
    CRel P G hp ρ w (xcallV P f args hp) (callV f' ⟨args'⟩) := by
  cases hf <;> try trivial
  · rename_i fn a b a' b' hy ha hb
    refine CRel.run (s := invoke (.fn fn ⟨b'⟩) ⟨a' ++ args'⟩) (fun w => ?_) (xinvoke_ok c hy hb (ha.append hl))
    show (invoke (.fn fn ⟨b'⟩) (⟨a'⟩ ++ ⟨args'⟩)).run P w = _
    congr 2
    apply Array.ext'; simp
  · rename_i l hok
    refine ⟨hok, args', hl, ?_⟩
    show (Instr.yield (ρ.blk l) (#[] ++ ⟨args'⟩)).run P w = _
    congr 2
    apply Array.ext'; simp

theorem op1_no_call {x : Operand} {F : Value → Hp → R} {f : T Value → Hp → CR} (h : op1 x F = .call f) : False := by
  obtain ⟨g, e, _⟩ := op1_eq x F
  rw [e] at h; cases h
theorem op2_no_call {x y : Operand} {F : Value → Value → Hp → R} {f : T Value → Hp → CR} (h : op2 x y F = .call f) : False := by
  obtain ⟨g, e, _⟩ := op2_eq x y F
  rw [e] at h; cases h
theorem write_no_call (b : Builtin) (ts : List TypeId) (xs : List Operand) (f : T Value → Hp → CR) : bxWrite P b ts xs ≠ .call f := by
  intro h
  unfold bxWrite at h
  split at h
  · split at h
    · split at h
      · rename_i zl _
        cases hc : Nat.ble 1 zl.length with
        | false => rw [hc] at h; cases h
        | true => rw [hc, cond_true] at h; exact op1_no_call h
      · cases h
    · cases h
  · split at h
    · split at h
      · exact op2_no_call h
      · cases h
    · cases h
  · cases h
theorem builtin_no_call (o : Oper) (b : Builtin) (ts : List TypeId) (xs : List Operand) (f : T Value → Hp → CR) : bxBuiltin P o b ts xs ≠ .call f := by
  intro h
  unfold bxBuiltin at h
  split at h
  · split at h
    · split at h
      · rename_i size inf zl _ _ _
        cases hc : (Nat.ble inf.bytes 4096 && Nat.beq zl.length size) with
        | false => rw [hc] at h; cases h
        | true => rw [hc, cond_true, fNat_eq] at h; exact op2_no_call h
      · cases h
    · cases h
  · unfold bxLen at h
    split at h
    · exact op1_no_call h
    · exact op1_no_call h
    · cases h
    · split at h <;> cases h
    · cases h
  · cases h
  · cases h
  · exact write_no_call _ _ _ _ h

/-- A call made ready. -/
def BxCall (P : Program) (G : Nat) (o : Oper) (f : T Value → Hp → CR) : Prop :=
  ∀ tm hp ρ w N ev, Ctx P G hp ρ w N → (∀ x ∈ o.op.operands, VR ρ (evA tm x) (ev x)) → (∀ f, ev (.func f) = .func (.func f) #[] #[]) → CRel P G hp ρ w (f tm hp) (execOp ev o)

theorem bxCall_ok {o : Oper} {cl : Call} (ho : o.op = .call cl) {f : T Value → Hp → CR} (h : bxCall P o cl = .call f) : BxCall P G o f := by
  unfold bxCall at h
  split at h
  · rename_i g hcal
    obtain ⟨k, e1, e2⟩ := opsBx_spec (β := CR) cl.args.toList
    unfold callArgs at h
    rw [e1] at h
    cases h
    intro tm hp ρ w N ev c hev hfn
    show CRel P G hp ρ w (k tm fun args => xcallFunc P g args hp) _
    rw [e2]
    have hl := map_vr (l := cl.args.toList) fun x hx => hev x (by rw [ho]; simp [Op.operands, Call.operands, hcal]; right; simpa using hx)
    refine CRel.run (s := callFunc g ⟨cl.args.toList.map ev⟩) (fun w => ?_) (callFunc_ok (f := g) c hl)
    unfold execOp
    rw [ho]
    show ((resolve ev cl o.type >>= fun d => invoke d.target d.args) : Sem Next).run P w = _
    unfold resolve
    rw [hcal]
    show (callV (ev (.func g)) (cl.args.map ev)).run P w = _
    rw [hfn]
    show (callFunc g ((#[] ++ cl.args.map ev) ++ #[])).run P w = _
    congr 2
    apply Array.ext'; simp
  · rename_i g _ hcal
    obtain ⟨k, e1, e2⟩ := opsBx_spec (β := CR) (g :: cl.args.toList)
    unfold callArgs at h
    rw [e1] at h
    cases h
    intro tm hp ρ w N ev c hev hfn
    show CRel P G hp ρ w (k tm fun l => onHead l fun f args => xcallV P f args hp) _
    rw [e2]
    have hl := map_vr (l := cl.args.toList) fun x hx => hev x (by rw [ho]; simp [Op.operands, Call.operands, hcal]; right; simpa using hx)
    have hg := hev g (by rw [ho]; simp [Op.operands, Call.operands, hcal])
    refine CRel.run (s := callV (ev g) ⟨cl.args.toList.map ev⟩) (fun w => ?_) (xcallV_ok c hg hl)
    unfold execOp
    rw [ho]
    show ((resolve ev cl o.type >>= fun d => invoke d.target d.args) : Sem Next).run P w = _
    unfold resolve
    rw [hcal]
    show (callV (ev g) (cl.args.map ev)).run P w = _
    congr 2
    apply Array.ext'; simp
  · rename_i r name hcal
    obtain ⟨k, e1, e2⟩ := opsBx_spec (β := CR) (r :: cl.args.toList)
    unfold callArgs at h
    rw [e1] at h
    cases h
    intro tm hp ρ w N ev c hev hfn
    show CRel P G hp ρ w (k tm fun args => xcallMethod P name args hp) _
    rw [e2]
    have hl := map_vr (l := r :: cl.args.toList) fun x hx => hev x (by rw [ho]; simp [Op.operands, Call.operands, hcal]; simpa using hx)
    refine CRel.run (s := invoke (.fn (.method name) #[]) ⟨(r :: cl.args.toList).map ev⟩) (fun w => ?_) (xcallMethod_ok c hl)
    unfold execOp
    rw [ho]
    show ((resolve ev cl o.type >>= fun d => invoke d.target d.args) : Sem Next).run P w = _
    unfold resolve
    rw [hcal]
    show (invoke (.fn (.method name) #[]) (#[ev r] ++ cl.args.map ev)).run P w = _
    congr 2
    apply Array.ext'; simp
  · exact absurd h (builtin_no_call _ _ _ _ _)

theorem okOpds_mem {l : List Operand} (h : okOpds G l = true) : ∀ x ∈ l, okOpd G x = true := by
  induction l with
  | nil => intro x hx; cases hx
  | cons y l ih =>
    unfold okOpds at h
    cases hy : okOpd G y with
    | false => rw [hy] at h; cases h
    | true =>
      rw [hy, cond_true] at h
      intro x hx
      cases hx with
      | head => exact hy
      | tail _ hx => exact ih h x hx

theorem noCall_op {b : Bx} {f : T Value → Hp → R} (h : noCall b = .op f) : b = .op f := by cases b <;> first | exact h | cases h
theorem noCall_call {b : Bx} {f : T Value → Hp → CR} (h : noCall b = .call f) : False := by cases b <;> cases h

theorem bxOf_op {o : Oper} {f : T Value → Hp → R} (h : bxOf P G o = .op f) : (∀ x ∈ o.op.operands, okOpd G x = true) ∧ BxOk P G o f := by
  unfold bxOf at h
  cases hk : okOpds G o.op.operands.toList with
  | false => rw [hk] at h; cases h
  | true =>
    rw [hk, cond_true] at h
    refine ⟨fun x hx => okOpds_mem hk x (by simpa using hx), ?_⟩
    unfold bxAny at h
    split at h
    · rename_i c hc
      exact bxOp_ok (by unfold bxOp; rw [hc]; exact h)
    · exact bxOp_ok (noCall_op h)

theorem bxOf_call {o : Oper} {f : T Value → Hp → CR} (h : bxOf P G o = .call f) : (∀ x ∈ o.op.operands, okOpd G x = true) ∧ (∃ c, o.op = .call c) ∧ BxCall P G o f := by
  unfold bxOf at h
  cases hk : okOpds G o.op.operands.toList with
  | false => rw [hk] at h; cases h
  | true =>
    rw [hk, cond_true] at h
    refine ⟨fun x hx => okOpds_mem hk x (by simpa using hx), ?_⟩
    unfold bxAny at h
    split at h
    · rename_i c hc
      exact ⟨⟨c, hc⟩, bxCall_ok hc h⟩
    · exact (noCall_call h).elim
end Go.Proofs.YtjdkfdhfodmbeaaDoor.Ax
