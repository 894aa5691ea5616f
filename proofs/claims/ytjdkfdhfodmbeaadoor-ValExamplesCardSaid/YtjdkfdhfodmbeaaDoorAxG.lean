/- An executor of closed runs: what its operations say of a world (1). -/
import Derived.Test.YtjdkfdhfodmbeaaDoorAxF
namespace Go.Proofs.YtjdkfdhfodmbeaaDoor.Ax
open Go
variable {P : Program} {G : Nat}

structure Ctx (P : Program) (G : Nat) (hp : Hp) (ρ : Rho) (w : World) (N : Nat) : Prop where
  sat : Sat P G hp ρ w
  fresh : ∀ n, hp.next ≤ n → n < N → ¬ ρ.ok n

def Good (P : Program) (G : Nat) (hp hp' : Hp) (ρ : Rho) (w : World) (v : Value) (s : Sem Next) : Prop :=
  ∃ nx v' ρ' w', s.run P w = .ok nx w' ∧ (nx = .value v' ∨ (nx = .skip ∧ v' = undef)) ∧ VR ρ' v v' ∧ Post P G hp hp' ρ ρ' w w'

def valN (s : Sem Value) : Sem Next := do pure (.value (← s))
def uniN (s : Sem Unit) : Sem Next := do s; pure .skip
theorem run_valN {s : Sem Value} {w w' : World} {v : Value} (h : s.run P w = .ok v w') : (valN s).run P w = .ok (.value v) w' := by
  unfold valN; rw [Sem.run_bind, h]; rfl
theorem run_uniN {s : Sem Unit} {w w' : World} (h : s.run P w = .ok () w') : (uniN s).run P w = .ok .skip w' := by
  unfold uniN; rw [Sem.run_bind, h]; rfl

theorem VR.undef {ρ : Rho} : VR ρ undef undef := .tuple [] [] .nil

theorem good_pure {hp : Hp} {ρ : Rho} {w : World} {N : Nat} {v v' : Value} {s : Sem Value} (c : Ctx P G hp ρ w N) (h : s.run P w = .ok v' w) (hv : VR ρ v v') : Good P G hp hp ρ w v (valN s) :=
  ⟨_, v', ρ, w, run_valN h, .inl rfl, hv, .refl c.sat⟩

/-- A function of one value that stands for s. -/
def Ok1 (P : Program) (G : Nat) (F : Value → Hp → R) (S : Value → Sem Next) : Prop :=
  ∀ a hp v hp', F a hp = .ok v hp' → ∀ ρ w N a', Ctx P G hp ρ w N → VR ρ a a' → hp'.next ≤ N → Good P G hp hp' ρ w v (S a')
def Ok2 (P : Program) (G : Nat) (F : Value → Value → Hp → R) (S : Value → Value → Sem Next) : Prop :=
  ∀ a b hp v hp', F a b hp = .ok v hp' → ∀ ρ w N a' b', Ctx P G hp ρ w N → VR ρ a a' → VR ρ b b' → hp'.next ≤ N → Good P G hp hp' ρ w v (S a' b')
def Ok3 (P : Program) (G : Nat) (F : Value → Value → Value → Hp → R) (S : Value → Value → Value → Sem Next) : Prop :=
  ∀ a b d hp v hp', F a b d hp = .ok v hp' → ∀ ρ w N a' b' d', Ctx P G hp ρ w N → VR ρ a a' → VR ρ b b' → VR ρ d d' → hp'.next ≤ N → Good P G hp hp' ρ w v (S a' b' d')
/-- An operation made ready. -/
def BxOk (P : Program) (G : Nat) (o : Oper) (f : T Value → Hp → R) : Prop :=
  ∀ tm hp v hp', f tm hp = .ok v hp' → ∀ ρ w N ev, Ctx P G hp ρ w N → (∀ x ∈ o.op.operands, VR ρ (evA tm x) (ev x)) → hp'.next ≤ N → Good P G hp hp' ρ w v (execOp ev o)

theorem opBx_spec (x : Operand) : ∃ f, opBx x = .mk f ∧ ∀ tm k, f tm k = k (evA tm x) := by
  cases x with
  | tmp t =>
    obtain ⟨g, hg, hs⟩ := T.getPath_spec (α := Value) (t + 1) t (Nat.lt_succ_self t)
    refine ⟨fun tm k => onSome (g tm) (k undef) k, ?_, fun tm k => ?_⟩
    · have : opBx (.tmp t) = T.GBx.rec (motive := fun _ => OBx) (fun g => .mk fun tm k => onSome (g tm) (k undef) k) (T.getPath (α := Value) (T.pathF (t + 1) t)) := rfl
      rw [this, hg]
    · show onSome (g tm) (k undef) k = k (onSome (tm.get t) undef fun v => v)
      rw [hs]
      cases tm.get t <;> rfl
  | const v => exact ⟨_, rfl, fun _ _ => rfl⟩
  | global g => exact ⟨_, rfl, fun _ _ => rfl⟩
  | func f => exact ⟨_, rfl, fun _ _ => rfl⟩

theorem op1_eq (x : Operand) (F : Value → Hp → R) : ∃ f, op1 x F = .op f ∧ ∀ tm hp, f tm hp = F (evA tm x) hp := by
  obtain ⟨g, hg, hs⟩ := opBx_spec x
  refine ⟨fun tm hp => g tm fun v => F v hp, ?_, fun tm hp => hs _ _⟩
  unfold op1 with1; rw [hg]
theorem op2_eq (x y : Operand) (F : Value → Value → Hp → R) : ∃ f, op2 x y F = .op f ∧ ∀ tm hp, f tm hp = F (evA tm x) (evA tm y) hp := by
  obtain ⟨g, hg, hs⟩ := opBx_spec x
  obtain ⟨g2, hg2, hs2⟩ := opBx_spec y
  refine ⟨fun tm hp => g tm fun v => g2 tm fun u => F v u hp, ?_, fun tm hp => by show g tm (fun v => g2 tm fun u => F v u hp) = _; rw [hs, hs2]⟩
  unfold op2 with1; rw [hg, hg2]
theorem op3_eq (x y z : Operand) (F : Value → Value → Value → Hp → R) : ∃ f, op3 x y z F = .op f ∧ ∀ tm hp, f tm hp = F (evA tm x) (evA tm y) (evA tm z) hp := by
  obtain ⟨g, hg, hs⟩ := opBx_spec x
  obtain ⟨g2, hg2, hs2⟩ := opBx_spec y
  obtain ⟨g3, hg3, hs3⟩ := opBx_spec z
  refine ⟨fun tm hp => g tm fun v => g2 tm fun u => g3 tm fun t => F v u t hp, ?_, fun tm hp => by show g tm (fun v => g2 tm fun u => g3 tm fun t => F v u t hp) = _; rw [hs, hs2, hs3]⟩
  unfold op3 with1; rw [hg, hg2, hg3]

theorem bx1 {o : Oper} {x : Operand} {F : Value → Hp → R} {S : Value → Sem Next} {f : T Value → Hp → R} (h : op1 x F = .op f) (hF : Ok1 P G F S) (hx : x ∈ o.op.operands) (he : ∀ ev, execOp ev o = S (ev x)) : BxOk P G o f := by
  obtain ⟨g, hg, hs⟩ := op1_eq x F
  rw [hg] at h; cases h
  intro tm hp v hp' hr ρ w N ev c hev hN
  rw [hs] at hr
  rw [he]
  exact hF _ _ _ _ hr ρ w N _ c (hev x hx) hN
theorem bx2 {o : Oper} {x y : Operand} {F : Value → Value → Hp → R} {S : Value → Value → Sem Next} {f : T Value → Hp → R} (h : op2 x y F = .op f) (hF : Ok2 P G F S) (hx : x ∈ o.op.operands) (hy : y ∈ o.op.operands)
    (he : ∀ ev, execOp ev o = S (ev x) (ev y)) : BxOk P G o f := by
  obtain ⟨g, hg, hs⟩ := op2_eq x y F
  rw [hg] at h; cases h
  intro tm hp v hp' hr ρ w N ev c hev hN
  rw [hs] at hr
  rw [he]
  exact hF _ _ _ _ _ hr ρ w N _ _ c (hev x hx) (hev y hy) hN
theorem bx3 {o : Oper} {x y z : Operand} {F : Value → Value → Value → Hp → R} {S : Value → Value → Value → Sem Next} {f : T Value → Hp → R} (h : op3 x y z F = .op f) (hF : Ok3 P G F S) (hx : x ∈ o.op.operands) (hy : y ∈ o.op.operands) (hz : z ∈ o.op.operands)
    (he : ∀ ev, execOp ev o = S (ev x) (ev y) (ev z)) : BxOk P G o f := by
  obtain ⟨g, hg, hs⟩ := op3_eq x y z F
  rw [hg] at h; cases h
  intro tm hp v hp' hr ρ w N ev c hev hN
  rw [hs] at hr
  rw [he]
  exact hF _ _ _ _ _ _ hr ρ w N _ _ _ c (hev x hx) (hev y hy) (hev z hz) hN

/-! The plain way. -/
theorem list_operands {tm : T Value} {ev : Operand → Value} {ρ : Rho} {l : Array Operand} (h : ∀ x ∈ l, VR ρ (evA tm x) (ev x)) : LR ρ (l.toList.map (evA tm)) (l.toList.map ev) :=
  LR.map _ fun x hx => h x (Array.mem_toList_iff.1 hx)

theorem pureV_ok {s : Sem Next} {v : Value} (h : pureV P s = some v) : pureRun P s = some (.value v) ∧ pl v = true := by
  unfold pureV at h
  split at h
  · rename_i u hu
    cases hp : pl u with
    | false => rw [hp] at h; cases h
    | true => rw [hp] at h; simp at h; subst h; exact ⟨hu, hp⟩
  · cases h

theorem plain_ok {o : Oper} (hsel : ∀ cs b, o.op ≠ .select cs b) : BxOk P G o (plainR P o) := by
  intro tm hp v hp' hr ρ w N ev c hev hN
  obtain ⟨h, rfl⟩ := okV_ok hr
  unfold xplain at h
  cases ha : allPl (o.op.operands.toList.map (evA tm)) with
  | false => rw [ha] at h; cases h
  | true =>
    rw [ha] at h
    obtain ⟨h1, h2⟩ := pureV_ok (s := execOp (evA tm) o) h
    have hl := list_operands hev
    have heq := allPl_eq ha hl
    have he : execOp ev o = execOp (evA tm) o := by
      refine execOp_congr o hsel fun x hx => ?_
      have : ∀ l : List Operand, l.map ev = l.map (evA tm) → ∀ x ∈ l, ev x = evA tm x := by
        intro l hl x hx
        exact List.map_inj_left.1 hl x hx
      exact this _ heq x (Array.mem_toList_iff.2 hx)
    rw [he]
    exact ⟨_, v, ρ, w, pureRun_run P _ _ w h1, .inl rfl, pl_vr h2, .refl c.sat⟩

theorem elseR_ok {r s : R} {v : Value} {hp : Hp} (h : elseR r s = .ok v hp) : r = .ok v hp ∨ s = .ok v hp := by
  cases r with
  | no => exact .inr h
  | ok u q => exact .inl h
theorem bx2p {o : Oper} {x y : Operand} {F : Value → Value → Hp → R} {S : Value → Value → Sem Next} {f : T Value → Hp → R} (hsel : ∀ cs b, o.op ≠ .select cs b) (h : op2p P o x y F = .op f) (hF : Ok2 P G F S) (hx : x ∈ o.op.operands) (hy : y ∈ o.op.operands)
    (he : ∀ ev, execOp ev o = S (ev x) (ev y)) : BxOk P G o f := by
  obtain ⟨g, hg, hs⟩ := opBx_spec x
  obtain ⟨g2, hg2, hs2⟩ := opBx_spec y
  unfold op2p with1 at h; rw [hg, hg2] at h; cases h
  intro tm hp v hp' hr ρ w N ev c hev hN
  rcases elseR_ok hr with hr | hr
  · rw [hs, hs2] at hr
    rw [he]
    exact hF _ _ _ _ _ hr ρ w N _ _ c (hev x hx) (hev y hy) hN
  · exact plain_ok hsel tm hp v hp' hr ρ w N ev c hev hN
theorem bx1p {o : Oper} {x : Operand} {F : Value → Hp → R} {S : Value → Sem Next} {f : T Value → Hp → R} (hsel : ∀ cs b, o.op ≠ .select cs b) (h : op1p P o x F = .op f) (hF : Ok1 P G F S) (hx : x ∈ o.op.operands)
    (he : ∀ ev, execOp ev o = S (ev x)) : BxOk P G o f := by
  obtain ⟨g, hg, hs⟩ := opBx_spec x
  unfold op1p with1 at h; rw [hg] at h; cases h
  intro tm hp v hp' hr ρ w N ev c hev hN
  rcases elseR_ok hr with hr | hr
  · rw [hs] at hr
    rw [he]
    exact hF _ _ _ _ hr ρ w N _ c (hev x hx) hN
  · exact plain_ok hsel tm hp v hp' hr ρ w N ev c hev hN

/-! Types. -/
theorem isAgg_run {t : TypeId} {b : Bool} (h : isAgg? P t = some b) (w : World) : (isAgg t).run P w = .ok b w := by
  unfold isAgg? at h
  split at h <;> rename_i hu
  · cases h; unfold isAgg; rw [Sem.run_bind, run_underlying hu]; rfl
  · cases h; unfold isAgg; rw [Sem.run_bind, run_underlying hu]; rfl
  · cases h
    unfold isAgg; rw [Sem.run_bind, run_underlying hu]
    rename_i d h1 h2
    cases d <;> first | rfl | exact absurd rfl (h1 _) | exact absurd rfl (h2 _ _)
  · cases h
theorem sizeOf_run {t : TypeId} {n : Nat} (h : size? P t = some n) (w : World) : (sizeOf t).run P w = .ok n w := by
  unfold size? at h
  cases hi : P.info? t with
  | none => rw [hi] at h; cases h
  | some i =>
    rw [hi] at h; simp at h
    unfold sizeOf
    rw [Sem.run_bind, run_typeInfo _ hi]
    simp [h]
theorem kind_agg {t : TypeId} {n : Nat} (h : kindT P t = .agg n) : isAgg? P t = some true ∧ size? P t = some n := by
  unfold kindT at h
  split at h <;> first | (rw [fNat_eq] at h; cases h; exact ⟨by assumption, by assumption⟩) | cases h
theorem kind_one {t : TypeId} (h : kindT P t = .one) : isAgg? P t = some false ∧ size? P t = some 1 := by
  unfold kindT at h
  split at h <;> first | (rw [fNat_eq] at h; cases h) | exact ⟨by assumption, by assumption⟩ | cases h
theorem zeroL_some {t : TypeId} {l : List Value} (h : zeroL P t = some l) : ∃ z, zero? P t = some z ∧ cellsOf z = l ∧ all1 l = true := by
  unfold zeroL at h
  split at h
  · rename_i z hz
    cases ha : all1 (cellsOf z) with
    | false => rw [ha] at h; cases h
    | true => rw [ha] at h; cases h; exact ⟨z, hz, rfl, ha⟩
  · cases h
theorem zero_run {t : TypeId} {z : Value} (h : zero? P t = some z) (w : World) : (zeroValue t).run P w = .ok z w := by
  unfold zero? at h
  cases hi : P.info? t with
  | none => rw [hi] at h; cases h
  | some i =>
    rw [hi] at h
    have hz : i.zero = some z := h
    unfold zeroValue
    rw [Sem.run_bind, run_typeInfo _ hi]
    simp [hz]
theorem cells_of_all1 {z : Value} (h : all1 (cellsOf z) = true) : z.cells = ⟨cellsOf z⟩ := by
  cases z <;> first | rfl | (simp [cellsOf, isAggV, onAgg, all1, pl1, pl0] at h)

/-! Moves. -/
theorem still_ok : Ok1 P G stillV (fun a => pure (.value a)) := by
  intro a hp v hp' h ρ w N a' c ha hN
  cases h
  exact ⟨_, a', ρ, w, rfl, .inl rfl, ha, .refl c.sat⟩
theorem pickV_ok : Ok3 P G pickV (fun c a b => do pure (.value (if ← asBool c then a else b))) := by
  intro c a b hp v hp' h ρ w N c' a' b' ctx hc ha hb hN
  replace h := onBool_ok h
  obtain ⟨t, rfl, h⟩ := h
  cases hc
  cases t with
  | true => cases h; exact ⟨_, a', ρ, w, rfl, .inl rfl, ha, .refl ctx.sat⟩
  | false => cases h; exact ⟨_, b', ρ, w, rfl, .inl rfl, hb, .refl ctx.sat⟩

/-! Loads and stores. -/
theorem loadAgg_ok {t : TypeId} {n : Nat} (hk : kindT P t = .agg n) : Ok1 P G (xloadAgg n) (fun a => valN (Instr.loadAt t a)) := by
  intro a hp v hp' h ρ w N a' c ha hN
  replace h := onPtr_ok h
  obtain ⟨b, o, rfl, h⟩ := h
  replace h := onRead_ok h
  obtain ⟨ct, hv, h⟩ := h
  replace h := onSome_ok h
  obtain ⟨l, hl, h⟩ := h
  cases h
  cases ha
  obtain ⟨hok, hread⟩ := read_cells c.sat hv
  obtain ⟨l', h1, h2, h3, h4⟩ := read_list (P := P) hread hl
  refine good_pure c (v' := .agg l'.toArray) ?_ (.agg l l' h3 h1)
  show (Instr.sureAddr _ >>= fun a => loadVar t a).run P w = _
  rw [Sem.run_bind]
  show (loadVar t _).run P w = _
  unfold loadVar
  rw [Sem.run_bind, isAgg_run (kind_agg hk).1]
  simp only [Result.andThen_ok, if_true]
  rw [Sem.run_bind, sizeOf_run (kind_agg hk).2]
  simp only [Result.andThen_ok]
  rw [Sem.run_bind, h4]
  rfl
theorem loadOne_ok {t : TypeId} (hk : kindT P t = .one) : Ok1 P G xloadOne (fun a => valN (Instr.loadAt t a)) := by
  intro a hp v hp' h ρ w N a' c ha hN
  replace h := onPtr_ok h
  obtain ⟨b, o, rfl, h⟩ := h
  replace h := onRead_ok h
  obtain ⟨ct, hv, h⟩ := h
  replace h := onSome_ok h
  obtain ⟨u, hl, h⟩ := h
  cases h
  cases ha
  obtain ⟨hok, hread⟩ := read_cells c.sat hv
  obtain ⟨_, v', h1, h2⟩ := hread o v hl
  refine good_pure c (v' := v') ?_ h2
  show (Instr.sureAddr _ >>= fun a => loadVar t a).run P w = _
  rw [Sem.run_bind]
  show (loadVar t _).run P w = _
  unfold loadVar
  rw [Sem.run_bind, isAgg_run (kind_one hk).1]
  simp only [Result.andThen_ok, Bool.false_eq_true, if_false]
  rw [run_load, h1]

theorem storeAgg_ok {t : TypeId} {n : Nat} (hk : kindT P t = .agg n) : Ok2 P G (xstoreAgg n) (fun a x => uniN (Instr.storeAt t a x)) := by
  intro a x hp v hp' h ρ w N a' x' c ha hx hN
  replace h := onPtr_ok h
  obtain ⟨b, o, rfl, h⟩ := h
  replace h := onAgg_ok h
  obtain ⟨l, rfl, h⟩ := h
  replace h := pick_ok h
  obtain ⟨hn, h⟩ := h
  have hn := Nat.eq_of_beq_eq_true hn
  unfold xwrite at h
  replace h := onCells_ok h
  obtain ⟨ct, m, e, hv, h⟩ := h
  replace h := pick_ok h
  obtain ⟨hle, h⟩ := h
  rw [T.putList_eq, Hp.set_eq] at h
  cases h
  cases ha
  cases hx with
  | agg _ l' h1 hl =>
    have hle : o + l.length ≤ m := by rw [Nat.ble_eq] at hle; exact hle
    obtain ⟨w', r1, r2⟩ := write_cells c.sat hv hl h1 hle
    refine ⟨.skip, undef, ρ, w', run_uniN ?_, .inr ⟨rfl, rfl⟩, .undef, r2⟩
    show (Instr.sureAddr _ >>= fun a => storeVar t a (.agg ⟨l'⟩)).run P w = _
    rw [Sem.run_bind]
    show (storeVar t _ _).run P w = _
    unfold storeVar
    rw [Sem.run_bind, sizeOf_run (kind_agg hk).2]
    have : l'.length = n := by rw [← hl.length, hn]
    simp only [Result.andThen_ok, Value.cells, List.size_toArray, this, ne_eq, not_true_eq_false, if_false]
    simpa using r1
theorem storeOne_ok {t : TypeId} (hk : kindT P t = .one) : Ok2 P G xstoreOne (fun a x => uniN (Instr.storeAt t a x)) := by
  intro a x hp v hp' h ρ w N a' x' c ha hx hN
  replace h := onPtr_ok h
  obtain ⟨b, o, rfl, h⟩ := h
  replace h := onCells_ok h
  obtain ⟨ct, m, e, hv, h⟩ := h
  replace h := pick_ok h
  obtain ⟨hle, h⟩ := h
  rw [T.put_eq, Hp.set_eq] at h
  cases h
  cases ha
  rw [andB_eq, Bool.and_eq_true, lt_eq] at hle
  obtain ⟨w', r1, r2⟩ := write_cells c.sat hv (l := [x]) (l' := [x']) (.cons _ _ _ _ hx .nil) (by simpa using hle.2) hle.1
  refine ⟨.skip, undef, ρ, w', run_uniN ?_, .inr ⟨rfl, rfl⟩, .undef, r2⟩
  have hone : oneC x' = true := by rw [hx.one]; exact hle.2
  have hc : x'.cells = #[x'] := by cases x' <;> first | rfl | cases hone
  show (Instr.sureAddr _ >>= fun a => storeVar t a x').run P w = _
  rw [Sem.run_bind]
  show (storeVar t _ _).run P w = _
  unfold storeVar
  rw [Sem.run_bind, sizeOf_run (kind_one hk).2]
  simp only [Result.andThen_ok, hc, List.size_toArray, List.length_singleton, ne_eq, not_true_eq_false, if_false]
  simpa using r1

/-! New variables. -/
theorem get_list_leaf (l : List Value) (i : Nat) (v : Value) (h : (T.setList l .leaf 0).get i = some v) : l[i]? = some v := by
  rw [T.get_setList] at h
  by_cases hi : 0 ≤ i ∧ i < 0 + l.length
  · rw [if_pos hi] at h; simpa using h
  · rw [if_neg hi] at h; cases h
/-- A row of cells made of a list. -/
theorem new_list {hp : Hp} {ρ : Rho} {w : World} (hs : Sat P G hp ρ w) (hf : ¬ ρ.ok hp.next) (e : TypeId) {l l' : List Value} (hl : LR ρ l l') (h1 : ∀ v ∈ l, oneC v = true) :
    ∃ ρ', Post P G hp (hp.new (.cells (T.setList l .leaf 0) l.length e)) ρ ρ' w (World.more w (.cells l'.toArray e)) ∧ ρ'.blk hp.next = w.heap.size ∧ ρ'.sh hp.next = 0 ∧ ρ'.ok hp.next ∧ ρ'.clen hp.next = l'.toArray.size ∧ ρ'.esz hp.next = (size? P e).getD 0 :=
  new_cells hs hf _ _ e l'.toArray (by simp [hl.length]) fun i v hi => by
    have h := get_list_leaf l i v hi
    obtain ⟨v', h2, h3⟩ := hl.get_some h
    exact ⟨h1 v (List.mem_of_getElem? h), v', by simpa using h2, h3⟩

theorem run_newRow (w : World) (e : TypeId) (c : Array Value) : (newRow e c).run P w = .ok ⟨w.heap.size, 0, none⟩ (World.more w (.cells c e)) := rfl

theorem cells_rel {ρ : Rho} {x x' : Value} (hx : VR ρ x x') (h : x = .agg ⟨cellsOf x⟩ ∨ (oneC x = true ∧ cellsOf x = [x])) : LR ρ (cellsOf x) x'.cells.toList ∧ ∀ v ∈ cellsOf x, oneC v = true := by
  refine ⟨hx.cells, fun v hv => ?_⟩
  rcases h with h | ⟨h1, h2⟩
  · rw [h] at hx
    cases hx with
    | agg _ l' h1 _ => exact h1 v hv
  · rw [h2] at hv
    simp at hv; subst hv; exact h1

theorem box_ok (t : TypeId) : Ok1 P G (xbox t) (fun x => valN (Instr.box t x)) := by
  intro x hp v hp' h ρ w N x' c hx hN
  replace h := onCellsOf_ok h
  obtain ⟨hc, h⟩ := h
  rw [xnewCells_eq] at h
  cases h
  obtain ⟨hl, h1⟩ := cells_rel hx hc
  have hlt : hp.next < N := hN
  obtain ⟨ρ', r1, r2, r3, r4, _⟩ := new_list c.sat (c.fresh hp.next (Nat.le_refl _) hlt) t hl h1
  have hv : VR ρ' (ptrV hp.next 0) (.pointer (some ⟨w.heap.size, 0, none⟩)) := by
    have := VR.ptr (ρ := ρ') hp.next 0 r4
    rwa [r2, r3] at this
  refine ⟨_, _, ρ', _, run_valN ?_, .inl rfl, hv, r1⟩
  unfold Instr.box newVar
  rw [Sem.run_bind, show x'.cells = x'.cells.toList.toArray from rfl, run_newRow]
  rfl

theorem alloc_ok (t : TypeId) {l : List Value} (hz : zeroL P t = some l) : ∀ hp v hp', allocV (T.setList l .leaf 0) l.length t hp = .ok v hp' → ∀ ρ w N, Ctx P G hp ρ w N → hp'.next ≤ N → Good P G hp hp' ρ w v (valN (Instr.alloc t true (.tuple #[]))) := by
  intro hp v hp' h ρ w N c hN
  unfold allocV at h
  rw [xnew_eq] at h
  cases h
  obtain ⟨z, h1, h2, h3⟩ := zeroL_some hz
  have hlt : hp.next < N := hN
  obtain ⟨ρ', r1, r2, r3, r4, _⟩ := new_list c.sat (c.fresh hp.next (Nat.le_refl _) hlt) t (all1_vr h3) (fun v hv => pl1_one (all1_mem h3 v hv))
  have hv : VR ρ' (ptrV hp.next 0) (.pointer (some ⟨w.heap.size, 0, none⟩)) := by
    have := VR.ptr (ρ := ρ') hp.next 0 r4
    rwa [r2, r3] at this
  refine ⟨_, _, ρ', _, run_valN ?_, .inl rfl, hv, r1⟩
  unfold Instr.alloc newVar
  rw [Sem.run_bind, zero_run h1]
  have hc : z.cells = l.toArray := by rw [← h2] at h3 ⊢; exact cells_of_all1 h3
  simp only [Result.andThen_ok, hc]
  rw [Sem.run_bind, run_newRow]
  rfl

/-! Addresses. -/
theorem fieldAddr_ok {s : TypeId} {f : Nat} {fs : Array Field} {fd : Field} {n : Nat} (hu : P.underlying s = some (.struct fs)) (hf : fs.toList[f]? = some fd) (hn : size? P fd.type = some n) (h1 : Nat.ble 1 n = true) :
    Ok1 P G (xfieldAddr fd.offset) (fun x => valN (Instr.fieldAt s x f)) := by
  intro a hp v hp' h ρ w N a' c ha hN
  replace h := onPtr_ok h
  obtain ⟨b, o, rfl, h⟩ := h
  rw [fNat_eq] at h
  cases h
  cases ha with
  | ptr _ _ hok =>
    refine good_pure c (v' := .pointer (some ⟨ρ.blk b, ρ.sh b + (o + fd.offset), none⟩)) ?_ (.ptr b _ hok)
    have hf' : fs[f]? = some fd := by simpa using hf
    unfold Instr.fieldAt
    rw [Sem.run_bind, run_underlying hu]
    simp only [Result.andThen_ok, hf']
    rw [Sem.run_bind]
    simp only [Instr.sureAddr, Sem.run_pure, Result.andThen_ok]
    rw [Sem.run_bind]
    unfold fieldPlace
    rw [Sem.run_bind, sizeOf_run hn]
    have : ¬ n = 0 := by rw [Nat.ble_eq] at h1; omega
    simp only [Result.andThen_ok, this, if_false, Sem.run_pure, Addr.add_lit, Nat.add_assoc]

theorem indexAddrA_ok {t : TypeId} {len : Nat} {e : TypeId} {n : Nat} (hu : P.underlying t = some (.array len e)) (hn : size? P e = some n) : Ok2 P G (xindexAddrA len n) (fun x i => valN (Instr.indexAt t x i)) := by
  intro x ix hp v hp' h ρ w N x' ix' c hx hi hN
  replace h := onPtr_ok h
  obtain ⟨b, o, rfl, h⟩ := h
  replace h := natV_ok h
  obtain ⟨k, i, rfl, h⟩ := h
  replace h := pick_ok h
  obtain ⟨hlt, h⟩ := h
  rw [fNat_eq] at h
  cases h
  cases hi
  rw [lt_eq] at hlt
  cases hx with
  | ptr _ _ hok =>
    refine good_pure c (v' := .pointer (some ⟨ρ.blk b, ρ.sh b + (o + i * n), none⟩)) ?_ (.ptr b _ hok)
    unfold Instr.indexAt
    simp only [asIntOf, Sem.run_bind, Sem.run_pure, Result.andThen_ok, run_underlying hu, Instr.sureAddr]
    have : (0 : Int) ≤ (i : Int) ∧ (i : Int) < (len : Int) := ⟨Int.natCast_nonneg _, Int.ofNat_lt.2 hlt⟩
    simp only [Int.ofNat_eq_natCast]
    rw [if_pos this, Sem.run_bind, sizeOf_run hn]
    simp only [Result.andThen_ok, Sem.run_pure, Addr.add_lit, Int.toNat_natCast, Nat.add_assoc]
theorem indexAddrS_ok {t : TypeId} {e : TypeId} {n : Nat} (hu : P.underlying t = some (.slice e)) (hn : size? P e = some n) : Ok2 P G (xindexAddrS n) (fun x i => valN (Instr.indexAt t x i)) := by
  intro x ix hp v hp' h ρ w N x' ix' c hx hi hN
  replace h := onSlice_ok h
  obtain ⟨a, len, cap, rfl, h⟩ := h
  replace h := onSome_ok h
  obtain ⟨a, rfl, h⟩ := h
  replace h := onAddr_ok h
  obtain ⟨b, o, rfl, h⟩ := h
  replace h := natV_ok h
  obtain ⟨k, i, rfl, h⟩ := h
  replace h := pick_ok h
  obtain ⟨hlt, h⟩ := h
  rw [fNat_eq] at h
  cases h
  cases hi
  rw [lt_eq] at hlt
  have main : ∀ cap', x' = .slice (some ⟨ρ.blk b, ρ.sh b + o, none⟩) len cap' → ρ.ok b → Good P G hp hp ρ w (ptrV b (o + i * n)) (valN (Instr.indexAt t x' (.int k (Int.ofNat i)))) := by
    rintro cap' rfl hok
    refine good_pure c (v' := .pointer (some ⟨ρ.blk b, ρ.sh b + (o + i * n), none⟩)) ?_ (.ptr b _ hok)
    unfold Instr.indexAt
    simp only [asIntOf, Sem.run_bind, Sem.run_pure, Result.andThen_ok, run_underlying hu]
    have : (0 : Int) ≤ (i : Int) ∧ (i : Int) < (len : Int) := ⟨Int.natCast_nonneg _, Int.ofNat_lt.2 hlt⟩
    simp only [Int.ofNat_eq_natCast]
    rw [if_pos this, Sem.run_bind, sizeOf_run hn]
    simp only [Result.andThen_ok, Sem.run_pure, Addr.add_lit, Int.toNat_natCast, Nat.add_assoc]
  cases hx with
  | slice _ _ _ _ hok _ => exact main _ rfl hok
  | openS _ _ _ y c' hok h1 h2 h3 h4 => exact main c' (by rw [h3 (by omega)]) hok
end Go.Proofs.YtjdkfdhfodmbeaaDoor.Ax
