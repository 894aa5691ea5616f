/- An executor of closed runs: every operation, and calls. -/
import Derived.Test.YthdhclcdngdkdaaAxN
namespace Go.Proofs.Ythdhclcdngdkdaa.Ax
open Go
variable {P : Program} {G : Nat}

theorem bxBuiltin_ok {o : Oper} {cl : Call} {b : Builtin} (ho : o.op = .call cl) (hb : cl.callee = .builtin b) {f : T Value → Hp → R} (h : bxBuiltin P o b cl.argTypes.toList cl.args.toList = .op f) : BxOk P G o f := by
  have hsel : ∀ cs b, o.op ≠ .select cs b := by rw [ho]; intro cs b e; cases e
  have hmem : ∀ x ∈ cl.args.toList, x ∈ o.op.operands := by intro x hx; rw [ho]; simp [Op.operands, Call.operands, hb]; simpa using hx
  unfold bxBuiltin at h
  split at h <;> try (simp only [reduceCtorEq] at h)
  · rename_i st xt s x ht hx
    have ht' : cl.argTypes = #[st, xt] := by apply Array.ext'; simpa using ht
    have hx' : cl.args = #[s, x] := by apply Array.ext'; simpa using hx
    split at h <;> try (simp only [reduceCtorEq] at h)
    rename_i e hu hn
    split at h <;> try (simp only [reduceCtorEq] at h)
    rename_i size inf zl hs hi hz
    cases hc : (Nat.ble inf.bytes 4096 && Nat.beq zl.length size) with
    | false => rw [hc] at h; simp only [cond_false, reduceCtorEq] at h
    | true =>
      rw [hc, cond_true, fNat_eq] at h
      simp only [Bool.and_eq_true, Nat.ble_eq] at hc
      have he : ∀ ev, execOp ev o = valN (Builtin.append_ #[st, xt] o.type #[ev s, ev x]) := fun ev => by
        rw [builtin_exec ho hb]; rw [ht', hx']; show valN (Builtin.append_ #[st, xt] o.type (Array.map ev #[s, x])) = _; simp
      exact bx2 (S := fun a b => valN (Builtin.append_ #[st, xt] o.type #[a, b])) h (append_ok hu hn hs hi hz hc.1 (Nat.eq_of_beq_eq_true hc.2)) (hmem s (by rw [hx]; simp)) (hmem x (by rw [hx]; simp)) he
  · rename_i t x ht hx
    exact bxLen_ok ho hb ht hx h
  · unfold plainBx at h; cases h; exact plain_ok hsel
  · unfold plainBx at h; cases h; exact plain_ok hsel

theorem bxLoad_ok {o : Oper} {t : TypeId} {a : Operand} (ho : o.op = .load t a) {f : T Value → Hp → R} (h : bxLoad P t a = .op f) : BxOk P G o f := by
  have hx : a ∈ o.op.operands := by rw [ho]; simp [Op.operands]
  have he : ∀ ev, execOp ev o = valN (Instr.loadAt t (ev a)) := fun ev => by unfold execOp; rw [ho]; rfl
  unfold bxLoad at h
  split at h <;> try (simp only [reduceCtorEq] at h)
  · rename_i n hk; exact bx1 (S := fun a => valN (Instr.loadAt t a)) h (loadAgg_ok hk) hx he
  · rename_i hk; exact bx1 (S := fun a => valN (Instr.loadAt t a)) h (loadOne_ok hk) hx he
theorem bxStore_ok {o : Oper} {t : TypeId} {a x : Operand} (ho : o.op = .store t a x) {f : T Value → Hp → R} (h : bxStore P t a x = .op f) : BxOk P G o f := by
  have ha : a ∈ o.op.operands := by rw [ho]; simp [Op.operands]
  have hx : x ∈ o.op.operands := by rw [ho]; simp [Op.operands]
  have he : ∀ ev, execOp ev o = uniN (Instr.storeAt t (ev a) (ev x)) := fun ev => by unfold execOp; rw [ho]; rfl
  unfold bxStore at h
  split at h <;> try (simp only [reduceCtorEq] at h)
  · rename_i n hk; exact bx2 (S := fun a x => uniN (Instr.storeAt t a x)) h (storeAgg_ok hk) ha hx he
  · rename_i hk; exact bx2 (S := fun a x => uniN (Instr.storeAt t a x)) h (storeOne_ok hk) ha hx he
theorem bxAlloc_ok {o : Oper} {t : TypeId} (ho : o.op = .alloc t) {f : T Value → Hp → R} (h : bxAlloc P t = .op f) : BxOk P G o f := by
  have he : ∀ ev, execOp ev o = valN (Instr.alloc t true (.tuple #[])) := fun ev => by unfold execOp; rw [ho]; rfl
  unfold bxAlloc at h
  split at h <;> try (simp only [reduceCtorEq] at h)
  rename_i l hz
  rw [T.putList_eq, fNat_eq] at h
  cases h
  intro tm hp v hp' hr ρ w N ev c hev hN
  rw [he]
  exact alloc_ok t hz hp v hp' hr ρ w N c hN
theorem bxFieldAddr_ok {o : Oper} {s : TypeId} {x : Operand} {fi : Nat} (ho : o.op = .fieldAddr s x fi) {f : T Value → Hp → R} (h : bxFieldAddr P s x fi = .op f) : BxOk P G o f := by
  have hx : x ∈ o.op.operands := by rw [ho]; simp [Op.operands]
  have he : ∀ ev, execOp ev o = valN (Instr.fieldAt s (ev x) fi) := fun ev => by unfold execOp; rw [ho]; rfl
  unfold bxFieldAddr at h
  split at h <;> try (simp only [reduceCtorEq] at h)
  rename_i fs hu
  split at h <;> try (simp only [reduceCtorEq] at h)
  rename_i fd hf
  split at h <;> try (simp only [reduceCtorEq] at h)
  rename_i n hn
  cases hb : Nat.ble 1 n with
  | false => rw [hb] at h; simp only [pick_false, reduceCtorEq] at h
  | true =>
    rw [hb, pick_true, fNat_eq] at h
    exact bx1 (S := fun a => valN (Instr.fieldAt s a fi)) h (fieldAddr_ok hu hf hn hb) hx he
theorem bxIndexAddr_ok {o : Oper} {t : TypeId} {x i : Operand} (ho : o.op = .indexAddr t x i) {f : T Value → Hp → R} (h : bxIndexAddr P t x i = .op f) : BxOk P G o f := by
  have hx : x ∈ o.op.operands := by rw [ho]; simp [Op.operands]
  have hi : i ∈ o.op.operands := by rw [ho]; simp [Op.operands]
  have he : ∀ ev, execOp ev o = valN (Instr.indexAt t (ev x) (ev i)) := fun ev => by unfold execOp; rw [ho]; rfl
  unfold bxIndexAddr at h
  split at h <;> try (simp only [reduceCtorEq] at h)
  · rename_i e hu
    split at h <;> try (simp only [reduceCtorEq] at h)
    rename_i n hn
    rw [fNat_eq] at h
    exact bx2 (S := fun a b => valN (Instr.indexAt t a b)) h (indexAddrS_ok hu hn) hx hi he
  · rename_i len e hu
    split at h <;> try (simp only [reduceCtorEq] at h)
    rename_i n hn
    rw [fNat_eq] at h
    exact bx2 (S := fun a b => valN (Instr.indexAt t a b)) h (indexAddrA_ok hu hn) hx hi he
theorem bxMakeSlice_ok {o : Oper} {t : TypeId} {l cp : Operand} (ho : o.op = .makeSlice t l cp) {f : T Value → Hp → R} (h : bxMakeSlice P t l cp = .op f) : BxOk P G o f := by
  have hx : l ∈ o.op.operands := by rw [ho]; simp [Op.operands]
  have hi : cp ∈ o.op.operands := by rw [ho]; simp [Op.operands]
  have he : ∀ ev, execOp ev o = valN (Instr.makeSlice t (ev l) (ev cp)) := fun ev => by unfold execOp; rw [ho]; rfl
  unfold bxMakeSlice at h
  split at h <;> try (simp only [reduceCtorEq] at h)
  rename_i e hu
  split at h <;> try (simp only [reduceCtorEq] at h)
  rename_i size zl inf hs hz hinf
  cases hc : (Nat.beq zl.length size && Nat.ble 1 size) with
  | false => rw [hc] at h; simp only [cond_false, reduceCtorEq] at h
  | true =>
    rw [hc, cond_true] at h
    simp only [Bool.and_eq_true, Nat.ble_eq] at hc
    exact bx2 (S := fun a b => valN (Instr.makeSlice t a b)) h (makeSlice_ok hu hs hz hinf (Nat.eq_of_beq_eq_true hc.1) hc.2) hx hi he

theorem bxOp_ok {o : Oper} {f : T Value → Hp → R} (h : bxOp P o = .op f) : BxOk P G o f := by
  unfold bxOp at h
  split at h <;> rename_i ho <;> try (simp only [reduceCtorEq] at h)
  · exact bx1 h still_ok (by rw [ho]; simp [Op.operands]) fun ev => by unfold execOp; rw [ho]
  · exact bx1 h still_ok (by rw [ho]; simp [Op.operands]) fun ev => by unfold execOp; rw [ho]
  · exact bx3 h pickV_ok (by rw [ho]; simp [Op.operands]) (by rw [ho]; simp [Op.operands]) (by rw [ho]; simp [Op.operands]) fun ev => by unfold execOp; rw [ho]
  · exact bxLoad_ok ho h
  · exact bxStore_ok ho h
  · exact bxAlloc_ok ho h
  · exact bx1 h (box_ok _) (by rw [ho]; simp [Op.operands]) fun ev => by unfold execOp; rw [ho]; rfl
  · exact bxBuild_ok ho h
  · exact bxBuildSlice_ok ho h
  · exact bxMakeSlice_ok ho h
  · exact bxFieldAddr_ok ho h
  · exact bxIndexAddr_ok ho h
  · exact bxSlice_ok ho h
  · exact bxField_ok ho h
  · exact bxIndex_ok ho h
  · exact bx1 h (extract_ok _) (by rw [ho]; simp [Op.operands]) fun ev => by unfold execOp; rw [ho]; rfl
  · rename_i t x
    cases hn : notIface P t with
    | false => rw [hn] at h; simp only [cond_false, reduceCtorEq] at h
    | true => rw [hn, cond_true] at h; exact bx1 h (iface_ok hn) (by rw [ho]; simp [Op.operands]) fun ev => by unfold execOp; rw [ho]; rfl
  · exact bxMake_ok ho h
  · exact bx1 h typeAssert_ok (by rw [ho]; simp [Op.operands]) fun ev => by unfold execOp; rw [ho]; rfl
  · exact bxConvert_ok ho h
  · exact bx1 h nil_ok (by rw [ho]; simp [Op.operands]) fun ev => by unfold execOp; rw [ho]; rfl
  · exact bxBin_ok ho h
  · exact bxUn_ok ho h
  · rename_i cl
    unfold bxCall at h
    split at h
    · obtain ⟨g, e1, _⟩ := opsBx_spec (β := CR) cl.args.toList
      unfold callArgs at h; rw [e1] at h; cases h
    · rename_i f' _ _
      obtain ⟨g, e1, _⟩ := opsBx_spec (β := CR) (f' :: cl.args.toList)
      unfold callArgs at h; rw [e1] at h; cases h
    · rename_i r n _
      obtain ⟨g, e1, _⟩ := opsBx_spec (β := CR) (r :: cl.args.toList)
      unfold callArgs at h; rw [e1] at h; cases h
    · rename_i b hb
      exact bxBuiltin_ok ho hb h

/-! Calls. -/
def CRel (P : Program) (G : Nat) (hp : Hp) (ρ : Rho) (w : World) (cr : CR) (s : Sem Next) : Prop :=
  match cr with
  | .no => True
  | .val v hp' => hp' = hp ∧ Good P G hp hp ρ w v s
  | .enter f args => ∃ args', s.run P w = .ok (.enter f ⟨args'⟩) w ∧ LR ρ args args'
  | .yield l args => ρ.ok l ∧ ∃ args', LR ρ args args' ∧ s.run P w = (Instr.yield (ρ.blk l) ⟨args'⟩).run P w

theorem callFunc_ok {hp : Hp} {ρ : Rho} {w : World} {N : Nat} {f : FuncId} {args args' : List Value} (c : Ctx P G hp ρ w N) (hl : LR ρ args args') : CRel P G hp ρ w (xcallFunc P f args hp) (callFunc f ⟨args'⟩) := by
  unfold xcallFunc
  cases hk : kindOf P f with
  | no => trivial
  | body =>
    refine ⟨args', ?_, hl⟩
    unfold kindOf at hk
    split at hk
    · rename_i fn hf
      cases hn : isNumGo fn with
      | true => rw [hn] at hk; cases hk
      | false =>
        rw [hn, cond_false] at hk
        split at hk <;> try cases hk
        rename_i cc hb
        have hname : (fn.name == "runtime.NumGoroutine") = false := hn
        have hname' : ¬ fn.name = "runtime.NumGoroutine" := by simpa using hname
        show ((program >>= _) : Sem Next).run P w = _
        simp [program, Sem.run, hf, hname', hb]
    · cases hk
  | outside =>
    show CRel P G hp ρ w (outsideC P f args hp) _
    unfold outsideC
    cases ha : allPl args with
    | false => trivial
    | true =>
      have := allPl_eq ha hl
      subst this
      cases hv : pureV P (callFunc f ⟨args'⟩) with
      | none => trivial
      | some v =>
        obtain ⟨h1, h2⟩ := pureV_ok hv
        exact ⟨rfl, _, v, ρ, w, pureRun_run P _ _ w h1, .inl rfl, pl_vr h2, .refl c.sat⟩

theorem method_run {t : TypeId} {name : String} {f : FuncId} {ptr : Bool} (hm : methodOf P t name = .ok f ptr) (hr : sameRecv P t ptr = true) (v : Value) (fuel : Nat) (w : World) : (method (fuel + 1) t v name).run P w = .ok (f, v) w := by
  unfold methodOf at hm
  split at hm <;> try cases hm
  rename_i inf hi
  split at hm <;> try cases hm
  rename_i m hfind
  split at hm <;> try cases hm
  rename_i f' ptr' hpath hfunc
  have hfind' : inf.methods.find? (·.name == name) = some m := by rw [← Array.find?_toList]; exact hfind
  unfold method
  rw [Sem.run_bind, run_typeInfo _ hi]
  simp only [Result.andThen_ok, hfind']
  rw [Sem.run_bind, hpath]
  simp only [follow, Sem.run_pure, Result.andThen_ok, hfunc]
  rw [Sem.run_bind]
  unfold sameRecv at hr
  unfold receiverAt
  cases hu : P.underlying t with
  | none => rw [hu] at hr; cases ptr <;> cases hr
  | some d =>
    rw [hu] at hr
    rw [Sem.run_bind, run_underlying hu]
    simp only [Result.andThen_ok]
    cases d <;> cases ptr <;> first | (cases hr; done) | rfl

theorem callMethod_ok {hp : Hp} {ρ : Rho} {w : World} {N : Nat} {t : TypeId} {v v' : Value} {name : String} {rest rest' : List Value} (c : Ctx P G hp ρ w N) (hv : VR ρ v v') (hl : LR ρ rest rest') :
    CRel P G hp ρ w (xmethod P t v name rest hp) (callMethod (.iface t v') name ⟨rest'⟩) := by
  unfold xmethod
  cases hm : methodOf P t name with
  | no => trivial
  | ok f ptr =>
    show CRel P G hp ρ w (pick (sameRecv P t ptr) (xcallFunc P f (v :: rest) hp) .no) _
    cases hr : sameRecv P t ptr with
    | false => trivial
    | true =>
      have h1 := callFunc_ok (f := f) c (LR.cons _ _ _ _ hv hl)
      have h2 : ∀ w, (callMethod (.iface t v') name ⟨rest'⟩).run P w = (callFunc f ⟨v' :: rest'⟩).run P w := fun w => by
        unfold callMethod
        rw [Sem.run_bind]
        simp only [program, Sem.run, Result.andThen_ok]
        rw [Sem.run_bind, show P.types.size + Made.depth = (P.types.size + 99) + 1 from rfl, method_run hm hr]
        simp only [Result.andThen_ok]
        congr 2
        all_goals (apply Array.ext'; simp)
      have tr : ∀ cr, CRel P G hp ρ w cr (callFunc f ⟨v' :: rest'⟩) → CRel P G hp ρ w cr (callMethod (.iface t v') name ⟨rest'⟩) := by
        intro cr h
        cases cr with
        | no => trivial
        | val u q =>
          obtain ⟨e, nx, v1, ρ1, w1, g1, g2⟩ := h
          exact ⟨e, nx, v1, ρ1, w1, (h2 w).trans g1, g2⟩
        | enter g args =>
          obtain ⟨a', g1, g2⟩ := h
          exact ⟨a', (h2 w).trans g1, g2⟩
        | yield l args =>
          obtain ⟨g0, a', g1, g2⟩ := h
          exact ⟨g0, a', g1, (h2 w).trans g2⟩
      exact tr _ h1
end Go.Proofs.Ythdhclcdngdkdaa.Ax
