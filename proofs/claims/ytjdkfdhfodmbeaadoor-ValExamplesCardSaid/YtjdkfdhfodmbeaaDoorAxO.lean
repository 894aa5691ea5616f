/- An executor of closed runs: every operation, and calls. -/
import Derived.Test.YtjdkfdhfodmbeaaDoorAxN
namespace Go.Proofs.YtjdkfdhfodmbeaaDoor.Ax
open Go
variable {P : Program} {G : Nat}

theorem bxWrite_ok {o : Oper} {cl : Call} {b : Builtin} (ho : o.op = .call cl) (hb : cl.callee = .builtin b) {f : T Value → Hp → R} (h : bxWrite P b cl.argTypes.toList cl.args.toList = .op f) : BxOk P G o f := by
  have hmem : ∀ x ∈ cl.args.toList, x ∈ o.op.operands := by intro x hx; rw [ho]; simp [Op.operands, Call.operands, hb]; simpa using hx
  unfold bxWrite at h
  split at h <;> try (simp only [reduceCtorEq] at h)
  · rename_i t x ht hx
    have ht' : cl.argTypes = #[t] := by apply Array.ext'; simpa using ht
    have hx' : cl.args = #[x] := by apply Array.ext'; simpa using hx
    split at h <;> try (simp only [reduceCtorEq] at h)
    rename_i e hu
    split at h <;> try (simp only [reduceCtorEq] at h)
    rename_i zl hz
    cases hc : Nat.ble 1 zl.length with
    | false => rw [hc] at h; simp only [cond_false, reduceCtorEq] at h
    | true =>
      rw [hc, cond_true] at h
      have he : ∀ ev, execOp ev o = valN (Builtin.clear_ #[t] o.type #[ev x]) := fun ev => by
        rw [builtin_exec ho hb]; rw [ht', hx']; show valN (Builtin.clear_ #[t] o.type (Array.map ev #[x])) = _; simp
      exact bx1 (S := fun a => valN (Builtin.clear_ #[t] o.type #[a])) h (clear_ok hu hz (Nat.le_of_ble_eq_true hc)) (hmem x (by rw [hx]; simp)) he
  · rename_i t xt d x ht hx
    have hx' : cl.args = #[d, x] := by apply Array.ext'; simpa using hx
    have ht' : cl.argTypes = #[t, xt] := by apply Array.ext'; simpa using ht
    split at h <;> try (simp only [reduceCtorEq] at h)
    rename_i e hu
    split at h <;> try (simp only [reduceCtorEq] at h)
    rename_i size hs
    have he : ∀ ev, execOp ev o = valN (Builtin.copy_ #[t, xt] o.type #[ev d, ev x]) := fun ev => by
      rw [builtin_exec ho hb]; rw [hx', ht']; show valN (Builtin.copy_ #[t, xt] o.type (Array.map ev #[d, x])) = _; simp
    exact bx2 (S := fun a b => valN (Builtin.copy_ #[t, xt] o.type #[a, b])) h (copy_ok hu hs) (hmem d (by rw [hx]; simp)) (hmem x (by rw [hx]; simp)) he
theorem bxBuiltin_ok {o : Oper} {cl : Call} {b : Builtin} (ho : o.op = .call cl) (hb : cl.callee = .builtin b) {f : T Value → Hp → R} (h : bxBuiltin P o b cl.argTypes.toList cl.args.toList = .op f) : BxOk P G o f := by
  have hsel : ∀ cs b, o.op ≠ .select cs b := by rw [ho]; intro cs b e; cases e
  have hmem : ∀ x ∈ cl.args.toList, x ∈ o.op.operands := by intro x hx; rw [ho]; simp [Op.operands, Call.operands, hb]; simpa using hx
  unfold bxBuiltin at h
  split at h <;> try (simp only [reduceCtorEq] at h)
  · rename_i st xt s x ht hx
    have ht' : cl.argTypes = #[st, xt] := by apply Array.ext'; simpa using ht
    have hx' : cl.args = #[s, x] := by apply Array.ext'; simpa using hx
    split at h <;> try (simp only [reduceCtorEq] at h)
    rename_i e hu hn
    split at h <;> try (simp only [reduceCtorEq] at h)
    rename_i size inf zl hs hi hz
    cases hc : (Nat.ble inf.bytes 4096 && Nat.beq zl.length size) with
    | false => rw [hc] at h; simp only [cond_false, reduceCtorEq] at h
    | true =>
      rw [hc, cond_true, fNat_eq] at h
      simp only [Bool.and_eq_true, Nat.ble_eq] at hc
      have he : ∀ ev, execOp ev o = valN (Builtin.append_ #[st, xt] o.type #[ev s, ev x]) := fun ev => by
        rw [builtin_exec ho hb]; rw [ht', hx']; show valN (Builtin.append_ #[st, xt] o.type (Array.map ev #[s, x])) = _; simp
      exact bx2 (S := fun a b => valN (Builtin.append_ #[st, xt] o.type #[a, b])) h (append_ok hu hn hs hi hz hc.1 (Nat.eq_of_beq_eq_true hc.2)) (hmem s (by rw [hx]; simp)) (hmem x (by rw [hx]; simp)) he
  · rename_i t x ht hx
    exact bxLen_ok ho hb ht hx h
  · unfold plainBx at h; cases h; exact plain_ok hsel
  · unfold plainBx at h; cases h; exact plain_ok hsel
  · exact bxWrite_ok ho hb h

theorem bxLoad_ok {o : Oper} {t : TypeId} {a : Operand} (ho : o.op = .load t a) {f : T Value → Hp → R} (h : bxLoad P t a = .op f) : BxOk P G o f := by
  have hx : a ∈ o.op.operands := by rw [ho]; simp [Op.operands]
  have he : ∀ ev, execOp ev o = valN (Instr.loadAt t (ev a)) := fun ev => by unfold execOp; rw [ho]; rfl
  unfold bxLoad at h
  split at h <;> try (simp only [reduceCtorEq] at h)
  · rename_i n hk; exact bx1 (S := fun a => valN (Instr.loadAt t a)) h (loadAgg_ok hk) hx he
  · rename_i hk; exact bx1 (S := fun a => valN (Instr.loadAt t a)) h (loadOne_ok hk) hx he
theorem bxStore_ok {o : Oper} {t : TypeId} {a x : Operand} (ho : o.op = .store t a x) {f : T Value → Hp → R} (h : bxStore P t a x = .op f) : BxOk P G o f := by
  have ha : a ∈ o.op.operands := by rw [ho]; simp [Op.operands]
  have hx : x ∈ o.op.operands := by rw [ho]; simp [Op.operands]
  have he : ∀ ev, execOp ev o = uniN (Instr.storeAt t (ev a) (ev x)) := fun ev => by unfold execOp; rw [ho]; rfl
  unfold bxStore at h
  split at h <;> try (simp only [reduceCtorEq] at h)
  · rename_i n hk; exact bx2 (S := fun a x => uniN (Instr.storeAt t a x)) h (storeAgg_ok hk) ha hx he
  · rename_i hk; exact bx2 (S := fun a x => uniN (Instr.storeAt t a x)) h (storeOne_ok hk) ha hx he
theorem bxAlloc_ok {o : Oper} {t : TypeId} (ho : o.op = .alloc t) {f : T Value → Hp → R} (h : bxAlloc P t = .op f) : BxOk P G o f := by
  have he : ∀ ev, execOp ev o = valN (Instr.alloc t true (.tuple #[])) := fun ev => by unfold execOp; rw [ho]; rfl
  unfold bxAlloc at h
  split at h <;> try (simp only [reduceCtorEq] at h)
  rename_i l hz
  rw [T.putList_eq, fNat_eq] at h
  cases h
  intro tm hp v hp' hr ρ w N ev c hev hN
  rw [he]
  exact alloc_ok t hz hp v hp' hr ρ w N c hN
theorem bxFieldAddr_ok {o : Oper} {s : TypeId} {x : Operand} {fi : Nat} (ho : o.op = .fieldAddr s x fi) {f : T Value → Hp → R} (h : bxFieldAddr P s x fi = .op f) : BxOk P G o f := by
  have hx : x ∈ o.op.operands := by rw [ho]; simp [Op.operands]
  have he : ∀ ev, execOp ev o = valN (Instr.fieldAt s (ev x) fi) := fun ev => by unfold execOp; rw [ho]; rfl
  unfold bxFieldAddr at h
  split at h <;> try (simp only [reduceCtorEq] at h)
  rename_i fs hu
  split at h <;> try (simp only [reduceCtorEq] at h)
  rename_i fd hf
  split at h <;> try (simp only [reduceCtorEq] at h)
  rename_i n hn
  cases hb : Nat.ble 1 n with
  | false => rw [hb] at h; simp only [pick_false, reduceCtorEq] at h
  | true =>
    rw [hb, pick_true, fNat_eq] at h
    exact bx1 (S := fun a => valN (Instr.fieldAt s a fi)) h (fieldAddr_ok hu hf hn hb) hx he
theorem bxIndexAddr_ok {o : Oper} {t : TypeId} {x i : Operand} (ho : o.op = .indexAddr t x i) {f : T Value → Hp → R} (h : bxIndexAddr P t x i = .op f) : BxOk P G o f := by
  have hx : x ∈ o.op.operands := by rw [ho]; simp [Op.operands]
  have hi : i ∈ o.op.operands := by rw [ho]; simp [Op.operands]
  have he : ∀ ev, execOp ev o = valN (Instr.indexAt t (ev x) (ev i)) := fun ev => by unfold execOp; rw [ho]; rfl
  unfold bxIndexAddr at h
  split at h <;> try (simp only [reduceCtorEq] at h)
  · rename_i e hu
    split at h <;> try (simp only [reduceCtorEq] at h)
    rename_i n hn
    rw [fNat_eq] at h
    exact bx2 (S := fun a b => valN (Instr.indexAt t a b)) h (indexAddrS_ok hu hn) hx hi he
  · rename_i len e hu
    split at h <;> try (simp only [reduceCtorEq] at h)
    rename_i n hn
    rw [fNat_eq] at h
    exact bx2 (S := fun a b => valN (Instr.indexAt t a b)) h (indexAddrA_ok hu hn) hx hi he
theorem bxMakeSlice_ok {o : Oper} {t : TypeId} {l cp : Operand} (ho : o.op = .makeSlice t l cp) {f : T Value → Hp → R} (h : bxMakeSlice P t l cp = .op f) : BxOk P G o f := by
  have hx : l ∈ o.op.operands := by rw [ho]; simp [Op.operands]
  have hi : cp ∈ o.op.operands := by rw [ho]; simp [Op.operands]
  have he : ∀ ev, execOp ev o = valN (Instr.makeSlice t (ev l) (ev cp)) := fun ev => by unfold execOp; rw [ho]; rfl
  unfold bxMakeSlice at h
  split at h <;> try (simp only [reduceCtorEq] at h)
  rename_i e hu
  split at h <;> try (simp only [reduceCtorEq] at h)
  rename_i size zl inf hs hz hinf
  cases hc : (Nat.beq zl.length size && Nat.ble 1 size) with
  | false => rw [hc] at h; simp only [cond_false, reduceCtorEq] at h
  | true =>
    rw [hc, cond_true] at h
    simp only [Bool.and_eq_true, Nat.ble_eq] at hc
    exact bx2 (S := fun a b => valN (Instr.makeSlice t a b)) h (makeSlice_ok hu hs hz hinf (Nat.eq_of_beq_eq_true hc.1) hc.2) hx hi he

theorem bxMakeMap_ok {o : Oper} {t : TypeId} {r : Option Operand} (ho : o.op = .makeMap t r) {f : T Value → Hp → R} (h : bxMakeMap P t r = .op f) : BxOk P G o f := by
  have run : ∀ w : World, (do pure (.map (some (← newObj (.map #[] 0)))) : Sem Value).run P w = .ok (.map (some w.heap.size)) (World.more w (.map #[] 0)) := fun w => by
    rfl
  unfold bxMakeMap at h
  cases r with
  | none =>
    cases h
    intro tm hp v hp' hr ρ w N ev c hev hN
    have he : execOp ev o = valN (Instr.makeMap t none) := by unfold execOp; rw [ho]; rfl
    rw [he]
    exact mapV_ok hr c hN (run w)
  | some x =>
    have hx : x ∈ o.op.operands := by rw [ho]; simp [Op.operands]
    have he : ∀ ev, execOp ev o = valN (Instr.makeMap t (some (ev x))) := fun ev => by unfold execOp; rw [ho]; rfl
    simp only at h
    split at h <;> try (simp only [reduceCtorEq] at h)
    rename_i kt et hu
    refine bx1 (S := fun a => valN (Instr.makeMap t (some a))) h (fun a hp v hp' hr ρ w N a' c ha hN => ?_) hx he
    replace hr := onInt_ok hr
    obtain ⟨k, n, rfl, hr⟩ := hr
    cases ha
    refine mapV_ok hr c hN ?_
    unfold Instr.makeMap
    simp only [Sem.run_bind]
    rw [run_underlying hu]
    exact run w
theorem bxLookup_ok {o : Oper} {t : TypeId} {x k : Operand} {ok : Bool} (ho : o.op = .lookup t x k ok) {f : T Value → Hp → R} (h : bxLookup P t ok x k = .op f) : BxOk P G o f := by
  have hx : x ∈ o.op.operands := by rw [ho]; simp [Op.operands]
  have hk : k ∈ o.op.operands := by rw [ho]; simp [Op.operands]
  have he : ∀ ev, execOp ev o = valN (Instr.lookup t (ev x) (ev k) ok) := fun ev => by unfold execOp; rw [ho]; rfl
  unfold bxLookup at h
  split at h <;> try (simp only [reduceCtorEq] at h)
  rename_i kt et hu
  split at h <;> try (simp only [reduceCtorEq] at h)
  rename_i d z hd hz
  cases hp : pl z with
  | false => rw [hp] at h; simp only [cond_false, reduceCtorEq] at h
  | true => rw [hp, cond_true] at h; exact bx2 (S := fun a b => valN (Instr.lookup t a b ok)) h (lookup_ok hu hd hz hp) hx hk he
theorem bxMapUpdate_ok {o : Oper} {t : TypeId} {m k x : Operand} (ho : o.op = .mapUpdate t m k x ∨ o.op = .insert t m k x) {f : T Value → Hp → R} (h : bxMapUpdate P t m k x = .op f) : BxOk P G o f := by
  have hm : m ∈ o.op.operands := by rcases ho with ho | ho <;> (rw [ho]; simp [Op.operands])
  have hk : k ∈ o.op.operands := by rcases ho with ho | ho <;> (rw [ho]; simp [Op.operands])
  have hx : x ∈ o.op.operands := by rcases ho with ho | ho <;> (rw [ho]; simp [Op.operands])
  have he : ∀ ev, execOp ev o = uniN (Instr.mapUpdate t (ev m) (ev k) (ev x)) := fun ev => by
    rcases ho with ho | ho <;> (unfold execOp; rw [ho]; rfl)
  unfold bxMapUpdate at h
  split at h <;> try (simp only [reduceCtorEq] at h)
  rename_i kt et hu
  split at h <;> try (simp only [reduceCtorEq] at h)
  rename_i d hd
  exact bx3 (S := fun a b c => uniN (Instr.mapUpdate t a b c)) h (mapUpdate_ok hu hd) hm hk hx he

theorem bxOp_ok {o : Oper} {f : T Value → Hp → R} (h : bxOp P o = .op f) : BxOk P G o f := by
  unfold bxOp at h
  split at h <;> rename_i ho <;> try (simp only [reduceCtorEq] at h)
  · exact bx1 h still_ok (by rw [ho]; simp [Op.operands]) fun ev => by unfold execOp; rw [ho]
  · exact bx1 h still_ok (by rw [ho]; simp [Op.operands]) fun ev => by unfold execOp; rw [ho]
  · exact bx3 h pickV_ok (by rw [ho]; simp [Op.operands]) (by rw [ho]; simp [Op.operands]) (by rw [ho]; simp [Op.operands]) fun ev => by unfold execOp; rw [ho]
  · exact bxLoad_ok ho h
  · exact bxStore_ok ho h
  · exact bxAlloc_ok ho h
  · exact bx1 h (box_ok _) (by rw [ho]; simp [Op.operands]) fun ev => by unfold execOp; rw [ho]; rfl
  · exact bxBuild_ok ho h
  · exact bxBuildSlice_ok ho h
  · exact bxMakeSlice_ok ho h
  · exact bxFieldAddr_ok ho h
  · exact bxIndexAddr_ok ho h
  · exact bxSlice_ok ho h
  · exact bxField_ok ho h
  · exact bxIndex_ok ho h
  · exact bx1 h (extract_ok _) (by rw [ho]; simp [Op.operands]) fun ev => by unfold execOp; rw [ho]; rfl
  · rename_i t x
    cases hn : notIface P t with
    | false => rw [hn] at h; simp only [cond_false, reduceCtorEq] at h
    | true => rw [hn, cond_true] at h; exact bx1 h (iface_ok hn) (by rw [ho]; simp [Op.operands]) fun ev => by unfold execOp; rw [ho]; rfl
  · exact bxMake_ok ho h
  · exact bx1 h typeAssert_ok (by rw [ho]; simp [Op.operands]) fun ev => by unfold execOp; rw [ho]; rfl
  · exact bxConvert_ok ho h
  · exact bx1 h nil_ok (by rw [ho]; simp [Op.operands]) fun ev => by unfold execOp; rw [ho]; rfl
  · exact bxBin_ok ho h
  · exact bxUn_ok ho h
  · exact bxMakeMap_ok ho h
  · exact bxLookup_ok ho h
  · exact bxMapUpdate_ok (.inl ho) h
  · exact bxMapUpdate_ok (.inr ho) h
  · rename_i cl
    unfold bxCall at h
    split at h
    · obtain ⟨g, e1, _⟩ := opsBx_spec (β := CR) cl.args.toList
      unfold callArgs at h; rw [e1] at h; cases h
    · rename_i f' _ _
      obtain ⟨g, e1, _⟩ := opsBx_spec (β := CR) (f' :: cl.args.toList)
      unfold callArgs at h; rw [e1] at h; cases h
    · rename_i r n _
      obtain ⟨g, e1, _⟩ := opsBx_spec (β := CR) (r :: cl.args.toList)
      unfold callArgs at h; rw [e1] at h; cases h
    · rename_i b hb
      exact bxBuiltin_ok ho hb h

/-! Calls. -/
def CRel (P : Program) (G : Nat) (hp : Hp) (ρ : Rho) (w : World) (cr : CR) (s : Sem Next) : Prop :=
  match cr with
  | .no => True
  | .val v hp' => hp' = hp ∧ Good P G hp hp ρ w v s
  | .enter f args => ∃ args', s.run P w = .ok (.enter f ⟨args'⟩) w ∧ LR ρ args args'
  | .yield l args => ρ.ok l ∧ ∃ args', LR ρ args args' ∧ s.run P w = (Instr.yield (ρ.blk l) ⟨args'⟩).run P w

theorem callFunc_ok {hp : Hp} {ρ : Rho} {w : World} {N : Nat} {f : FuncId} {args args' : List Value} (c : Ctx P G hp ρ w N) (hl : LR ρ args args') : CRel P G hp ρ w (xcallFunc P f args hp) (callFunc f ⟨args'⟩) := by
  unfold xcallFunc
  cases hk : kindOf P f with
  | no => trivial
  | body =>
    refine ⟨args', ?_, hl⟩
    unfold kindOf at hk
    split at hk
    · rename_i fn hf
      cases hn : isNumGo fn with
      | true => rw [hn] at hk; cases hk
      | false =>
        rw [hn, cond_false] at hk
        split at hk <;> try cases hk
        rename_i cc hb
        have hname : (fn.name == "runtime.NumGoroutine") = false := hn
        have hname' : ¬ fn.name = "runtime.NumGoroutine" := by simpa using hname
        show ((program >>= _) : Sem Next).run P w = _
        simp [program, Sem.run, hf, hname', hb]
    · cases hk
  | outside =>
    show CRel P G hp ρ w (outsideC P f args hp) _
    unfold outsideC
    cases ha : allPl args with
    | false => trivial
    | true =>
      have := allPl_eq ha hl
      subst this
      cases hv : pureV P (callFunc f ⟨args'⟩) with
      | none => trivial
      | some v =>
        obtain ⟨h1, h2⟩ := pureV_ok hv
        exact ⟨rfl, _, v, ρ, w, pureRun_run P _ _ w h1, .inl rfl, pl_vr h2, .refl c.sat⟩

theorem xload_ok {t : TypeId} {x x' : Value} {hp hp' : Hp} {v : Value} {ρ : Rho} {w : World} (c : Sat P G hp ρ w) (h : xload P t x hp = .ok v hp') (hx : VR ρ x x') :
    hp' = hp ∧ ∃ v', (do loadVar t (← asAddr x') : Sem Value).run P w = .ok v' w ∧ VR ρ v v' := by
  unfold xload at h
  cases hk : kindT P t with
  | agg n =>
    rw [hk] at h
    replace h : xloadAgg n x hp = .ok v hp' := h
    replace h := onPtr_ok h
    obtain ⟨b, o, rfl, h⟩ := h
    replace h := onRead_ok h
    obtain ⟨ct, hv, h⟩ := h
    replace h := onSome_ok h
    obtain ⟨l, hl, h⟩ := h
    cases h
    cases hx
    obtain ⟨hok, hread⟩ := read_cells c hv
    obtain ⟨l', h1, h2, h3, h4⟩ := read_list (P := P) hread hl
    refine ⟨rfl, .agg l'.toArray, ?_, .agg l l' h3 h1⟩
    rw [Sem.run_bind]
    show (loadVar t _).run P w = _
    unfold loadVar
    rw [Sem.run_bind, isAgg_run (kind_agg hk).1]
    simp only [Result.andThen_ok, if_true]
    rw [Sem.run_bind, sizeOf_run (kind_agg hk).2]
    simp only [Result.andThen_ok]
    rw [Sem.run_bind, h4]
    rfl
  | one =>
    rw [hk] at h
    replace h : xloadOne x hp = .ok v hp' := h
    replace h := onPtr_ok h
    obtain ⟨b, o, rfl, h⟩ := h
    replace h := onRead_ok h
    obtain ⟨ct, hv, h⟩ := h
    replace h := onSome_ok h
    obtain ⟨u, hl, h⟩ := h
    cases h
    cases hx
    obtain ⟨hok, hread⟩ := read_cells c hv
    obtain ⟨_, v', h1, h2⟩ := hread o v hl
    refine ⟨rfl, v', ?_, h2⟩
    rw [Sem.run_bind]
    show (loadVar t _).run P w = _
    unfold loadVar
    rw [Sem.run_bind, isAgg_run (kind_one hk).1]
    simp only [Result.andThen_ok, Bool.false_eq_true, if_false]
    rw [run_load, h1]
  | bad => rw [hk] at h; cases h

theorem CRel.run1 {hp : Hp} {ρ : Rho} {w : World} {cr : CR} {s s' : Sem Next} (e : s'.run P w = s.run P w) (h : CRel P G hp ρ w cr s) : CRel P G hp ρ w cr s' := by
  cases cr with
  | no => trivial
  | val u q =>
    obtain ⟨e', nx, v1, ρ1, w1, g1, g2⟩ := h
    exact ⟨e', nx, v1, ρ1, w1, e.trans g1, g2⟩
  | enter g args =>
    obtain ⟨a', g1, g2⟩ := h
    exact ⟨a', e.trans g1, g2⟩
  | yield l args =>
    obtain ⟨g0, a', g1, g2⟩ := h
    exact ⟨g0, a', g1, e.trans g2⟩

theorem onRC_cases (r : R) (k : Value → CR) : onRC r k = .no ∨ ∃ u q, r = .ok u q ∧ onRC r k = k u := by
  cases r with
  | no => exact .inl rfl
  | ok u q => exact .inr ⟨u, q, rfl, rfl⟩

theorem withRecv_ok {t : TypeId} {ptr : Bool} {v v' : Value} {hp : Hp} {ρ : Rho} {w : World} (c : Sat P G hp ρ w) (hv : VR ρ v v') (k : Value → CR) :
    withRecv P t ptr v hp k = .no ∨ ∃ u u', withRecv P t ptr v hp k = k u ∧ VR ρ u u' ∧ ∀ wr, (receiverAt t (.val v') ptr wr).run P w = .ok u' w := by
  have same : ∀ d, P.underlying t = some d → (match d, ptr with | .pointer _, false => False | .pointer _, true => True | _, true => False | _, false => True) → ∀ wr, (receiverAt t (.val v') ptr wr).run P w = .ok v' w := by
    intro d hu hd wr
    unfold receiverAt
    rw [Sem.run_bind, run_underlying hu]
    simp only [Result.andThen_ok]
    cases d <;> cases ptr <;> first | exact hd.elim | rfl
  unfold withRecv
  cases hk : rkind P t ptr with
  | no => exact .inl rfl
  | same =>
    refine .inr ⟨v, v', rfl, hv, ?_⟩
    unfold rkind at hk
    cases hu : P.underlying t with
    | none => rw [hu] at hk; cases ptr <;> cases hk
    | some d =>
      rw [hu] at hk
      refine same d hu ?_
      cases d <;> cases ptr <;> first | (cases hk; done) | trivial
  | load e =>
    show onRC (xload P e v hp) k = .no ∨ ∃ u u', onRC (xload P e v hp) k = k u ∧ _
    rcases onRC_cases (xload P e v hp) k with h | ⟨u, q, h1, h2⟩
    · exact .inl h
    · obtain ⟨_, u', g1, g2⟩ := xload_ok c h1 hv
      refine .inr ⟨u, u', h2, g2, fun wr => ?_⟩
      unfold rkind at hk
      cases hu : P.underlying t with
      | none => rw [hu] at hk; cases ptr <;> cases hk
      | some d =>
        rw [hu] at hk
        have hd : d = .pointer e ∧ ptr = false := by
          cases d <;> cases ptr <;> first | (cases hk; done) | (cases hk; exact ⟨rfl, rfl⟩)
        obtain ⟨rfl, rfl⟩ := hd
        unfold receiverAt
        rw [Sem.run_bind, run_underlying hu]
        simp only [Result.andThen_ok, Place.get, Sem.run_bind, Sem.run_pure]
        have hptr : ∃ a, v' = .pointer (some a) := by
          have h3 := h1
          unfold xload at h3
          cases hkd : kindT P e with
          | bad => rw [hkd] at h3; cases h3
          | agg n =>
            rw [hkd] at h3
            replace h3 : xloadAgg n v hp = .ok u q := h3
            obtain ⟨b, o, rfl, _⟩ := onPtr_ok h3
            cases hv; exact ⟨_, rfl⟩
          | one =>
            rw [hkd] at h3
            replace h3 : xloadOne v hp = .ok u q := h3
            obtain ⟨b, o, rfl, _⟩ := onPtr_ok h3
            cases hv; exact ⟨_, rfl⟩
        obtain ⟨a, rfl⟩ := hptr
        rw [Sem.run_bind] at g1
        cases wr with
        | none => simpa [Sem.run_bind, Sem.run_pure] using g1
        | some name =>
          have hw : (Builtin.ssaWrapNilChk_ #[t] t #[.pointer (some a), strVal "", strVal name]).run P w = .ok (.pointer (some a)) w := rfl
          simp only [Sem.run_bind]
          rw [hw]
          exact g1

theorem method_run {t : TypeId} {name : String} {f : FuncId} {ptr : Bool} (hm : methodOf P t name = .ok f ptr) (v u : Value) (fuel : Nat) (w : World) (hr : ∀ wr, (receiverAt t (.val v) ptr wr).run P w = .ok u w) : (method (fuel + 1) t v name).run P w = .ok (f, u) w := by
  unfold methodOf at hm
  split at hm <;> try cases hm
  rename_i inf hi
  split at hm <;> try cases hm
  rename_i m hfind
  split at hm <;> try cases hm
  rename_i f' ptr' hpath hfunc
  have hfind' : inf.methods.find? (·.name == name) = some m := by rw [← Array.find?_toList]; exact hfind
  unfold method
  rw [Sem.run_bind, run_typeInfo _ hi]
  simp only [Result.andThen_ok, hfind']
  rw [Sem.run_bind, hpath]
  simp only [follow, Sem.run_pure, Result.andThen_ok, hfunc]
  rw [Sem.run_bind, hr]
  rfl

theorem callMethod_ok {hp : Hp} {ρ : Rho} {w : World} {N : Nat} {t : TypeId} {v v' : Value} {name : String} {rest rest' : List Value} (c : Ctx P G hp ρ w N) (hv : VR ρ v v') (hl : LR ρ rest rest') :
    CRel P G hp ρ w (xmethod P t v name rest hp) (callMethod (.iface t v') name ⟨rest'⟩) := by
  unfold xmethod
  cases hm : methodOf P t name with
  | no => trivial
  | ok f ptr =>
    show CRel P G hp ρ w (withRecv P t ptr v hp fun v => xcallFunc P f (v :: rest) hp) _
    rcases withRecv_ok (t := t) (ptr := ptr) c.sat hv (fun v => xcallFunc P f (v :: rest) hp) with e | ⟨u, u', e, hu, hr⟩
    · rw [e]; trivial
    · rw [e]
      have h1 := callFunc_ok (f := f) c (LR.cons _ _ _ _ hu hl)
      refine CRel.run1 ?_ h1
      unfold callMethod
      rw [Sem.run_bind]
      simp only [program, Sem.run, Result.andThen_ok]
      rw [Sem.run_bind, show P.types.size + Made.depth = (P.types.size + 99) + 1 from rfl, method_run hm v' u' _ w hr]
      simp only [Result.andThen_ok]
      congr 2
      all_goals (apply Array.ext'; simp)
end Go.Proofs.YtjdkfdhfodmbeaaDoor.Ax
