/- An executor of closed runs: a frame's steps. -/
import Derived.Test.YtjdkfdhfodmbeaaDoorAxS
namespace Go.Proofs.YtjdkfdhfodmbeaaDoor.Ax
open Go
variable {P : Program} {G : Nat}

theorem want_yes {all : List Oper} {o : Oper} (h : wantBx all o.guard = .yes) (y : Nat → Option Bool) : Region.wanted o y = true := by
  unfold wantBx at h
  unfold Region.wanted
  cases hg : o.guard with
  | none => rfl
  | some x =>
    obtain ⟨j, want⟩ := x
    rw [hg] at h
    simp only at h
    split at h
    · rename_i d hd
      obtain ⟨g, hg, _⟩ := T.getPath_spec (α := Value) (d + 1) d (Nat.lt_succ_self d)
      rw [hg] at h
      replace h : fBool want (fun want => WBx.ask fun tm a b => askB want (g tm) a b) = .yes := h
      rw [fBool_eq] at h
      cases h
    · cases h

theorem vr_notbool {ρ : Rho} {v v' : Value} (h : VR ρ v v') (hb : ∀ b, v ≠ .bool b) : ∀ b, v' ≠ .bool b := by
  intro b e
  subst e
  cases h
  exact hb _ rfl

theorem want_ask {all : Array Oper} {o : Oper} {f : T Value → R → R → R} (h : wantBx all.toList o.guard = .ask f) {ρ : Rho} {tm : T Value} {sz : Nat} {tmps : Array Value} (ht : tmR ρ tm sz tmps) :
    (Region.wanted o (yielded all tmps) = true ∧ ∀ a b, f tm a b = a) ∨ (Region.wanted o (yielded all tmps) = false ∧ ∀ a b, f tm a b = b) := by
  unfold wantBx at h
  unfold Region.wanted
  cases hg : o.guard with
  | none => rw [hg] at h; cases h
  | some x =>
    obtain ⟨j, want⟩ := x
    rw [hg] at h
    simp only at h ⊢
    split at h
    · rename_i d hd
      obtain ⟨g, hgp, hgs⟩ := T.getPath_spec (α := Value) (d + 1) d (Nat.lt_succ_self d)
      rw [hgp] at h
      replace h : fBool want (fun want => WBx.ask fun tm a b => askB want (g tm) a b) = .ask f := h
      rw [fBool_eq] at h
      cases h
      have hd' : (all[j]?).bind (·.dst) = some d := by rw [← hd]; simp
      have hy : yielded all tmps j = match tmps[d]? with | some (.bool b) => some b | _ => none := by
        unfold yielded
        rw [hd']
        rfl
      have hv := ht.2 d
      have hev : evA tm (.tmp d) = onSome (tm.get d) undef fun v => v := rfl
      rw [hev] at hv
      have key : (∃ b, tm.get d = some (.bool b)) ∨ (∀ a b, askB want (tm.get d) a b = b) ∧ ∀ b, onSome (tm.get d) undef (fun v => v) ≠ .bool b := by
        cases hgd : tm.get d with
        | none => exact .inr ⟨fun a b => rfl, fun b e => by cases e⟩
        | some u => cases u <;> first | exact .inl ⟨_, rfl⟩ | exact .inr ⟨fun a b => rfl, fun b e => by cases e⟩
      rcases key with ⟨t, ht1⟩ | ⟨h1, h2⟩
      · rw [ht1] at hv
        replace hv : VR ρ (.bool t) (tmps.getD d undef) := hv
        have hval : tmps[d]? = some (.bool t) := by
          have h3 : tmps.getD d undef = .bool t := by generalize tmps.getD d undef = z at hv; cases hv; rfl
          rw [Array.getD_eq_getD_getElem?] at h3
          cases hz : tmps[d]? with
          | none => rw [hz] at h3; cases h3
          | some z => rw [hz] at h3; exact congrArg some h3
        rw [hval] at hy
        rw [hy]
        have hf : ∀ a b, askB want (g tm) a b = pick (pick t want (pick want false true)) a b := fun a b => by rw [hgs, ht1]; rfl
        cases t <;> cases want <;> first
          | exact .inl ⟨rfl, hf⟩
          | exact .inr ⟨rfl, hf⟩
      · right
        refine ⟨?_, fun a b => by show askB want (g tm) a b = b; rw [hgs]; exact h1 a b⟩
        have h3 := vr_notbool hv h2
        have : yielded all tmps j = none := by
          rw [hy]
          cases hz : tmps[d]? with
          | none => rfl
          | some z =>
            have h4 : tmps.getD d undef = z := by rw [Array.getD_eq_getD_getElem?, hz]; rfl
            rw [h4] at h3
            cases z <;> first | rfl | exact absurd rfl (h3 _)
        rw [this]
        rfl
    · cases h

/-- What a drawn region says. -/
def RegOk (P : Program) (G : Nat) : Prop :=
  ∀ (run : Run) (ops : Array Oper) (l : List Step) (S : St) (dfs : List Nat) (K : T Value → Hp → R) (tm : T Value) (hp : Hp) (v : Value) (hp' : Hp), RunOk P G run → mkPlan P G ops.toList = some l →
    xdraw (oper P run) S.sz l [] [] tm hp K = .ok v hp' → ∀ ρ w b a cs id k', CtxA P G hp ρ w → FS P ρ S dfs tm b a →
    ∃ tm1 hp1 ρ1 w1 a1, K tm1 hp1 = .ok v hp' ∧ Post P G hp hp1 ρ ρ1 w w1 ∧ FS P ρ1 S dfs tm1 b a1 ∧
      Steps P (lone (b.atR a (.code (.region id ops true) :: k')) cs w) (lone (b.atR a1 k') cs w1)

def Concl (P : Program) (G : Nat) (S : St) (hp hp' : Hp) (ρ : Rho) (w : World) (v : Value) (fr : Frame) (cs : List Frame) : Prop :=
  ∃ v' ρ' w', VR ρ' v v' ∧ Post P G hp hp' ρ ρ' w w' ∧ Ends P S fr cs w v' w'

/-- What may be said at the end of a run of frames. -/
abbrev Con := St → Hp → Hp → Rho → World → Value → Frame → List Frame → Prop
structure IsC (P : Program) (G : Nat) (C : Con) : Prop where
  leaf : ∀ {S hp hp' ρ w v fr cs}, Concl P G S hp hp' ρ w v fr cs → C S hp hp' ρ w v fr cs
  go : ∀ {S hp hp1 hp' ρ ρ1 w w1 v fr fr1 cs}, CtxA P G hp ρ w → Post P G hp hp1 ρ ρ1 w w1 → Steps P (lone fr cs w) (lone fr1 cs w1) → C S hp1 hp' ρ1 w1 v fr1 cs → C S hp hp' ρ w v fr cs
/-- A run of frames that says C. -/
def RunC (P : Program) (G : Nat) (C : Con) (run : Run) : Prop :=
  ∀ S dfs todo tm hp v hp', run S dfs todo tm hp = .ok v hp' → ∀ ρ w b a todo' cs, CtxA P G hp ρ w → FS P ρ S dfs tm b a → TR ρ todo todo' → (S.ro ≠ none → cs ≠ []) → C S hp hp' ρ w v (b.atR a todo') cs
theorem isC_concl : IsC P G (Concl P G) :=
  ⟨id, fun _ p hst ⟨v', ρ', w', g1, g2, g3⟩ => ⟨v', ρ', w', g1, p.trans g2, g3.head hst⟩⟩

theorem go_on {C : Con} (hC : IsC P G C) {run : Run} (hrun : RunC P G C run) {S : St} {dfs : List Nat} {todo : List AItem} {tm : T Value} {hp hp1 hp' : Hp} {ρ ρ1 : Rho} {w w1 : World} {v : Value} {fr b : Frame} {a1 : Act} {t1 : List Item} {cs : List Frame}
    (c : CtxA P G hp ρ w) (p : Post P G hp hp1 ρ ρ1 w w1) (hf : FS P ρ1 S dfs tm b a1) (ht : TR ρ1 todo t1) (hcs : S.ro ≠ none → cs ≠ []) (hst : Steps P (lone fr cs w) (lone (b.atR a1 t1) cs w1))
    (h : run S dfs todo tm hp1 = .ok v hp') : C S hp hp' ρ w v fr cs :=
  hC.go c p hst (hrun _ _ _ _ _ _ _ h ρ1 w1 b a1 t1 cs (c.after p) hf ht hcs)

theorem stepR_scope {b : Frame} {a : Act} {k : List Item} {cs : List Frame} {w : World} {c : Code} :
    Go.step P (lone (b.atR a (.code (.scope c) :: k)) cs w) = .next (lone (b.atR a (.code c :: .inScope c :: k)) cs w) :=
  step_lone_go (by simp [stepG, stepG.exec, Frame.atR])
theorem stepR_inScope {b : Frame} {a : Act} {k : List Item} {cs : List Frame} {w : World} {c : Code} :
    Go.step P (lone (b.atR a (.inScope c :: k)) cs w) = .next (lone (b.atR a k) cs w) :=
  step_lone_go (by simp [stepG, stepG.exec, Frame.atR])

theorem bxOf_not_defer {o : Oper} (h : bxOf P G o ≠ .bad) : ∀ c, o.op ≠ .defer c := by
  intro c e
  apply h
  unfold bxOf bxAny bxOp
  rw [e]
  cases okOpds G (Op.defer c).operands.toList <;> rfl

theorem okOpds_of {o : Oper} (h : bxOf P G o ≠ .bad) : ∀ x ∈ o.op.operands, okOpd G x = true := by
  intro x hx
  unfold bxOf at h
  cases hk : okOpds G o.op.operands.toList with
  | false => rw [hk] at h; exact absurd rfl h
  | true => exact okOpds_mem hk x (by simpa using hx)

/-- An operation, carried out. -/
theorem oper_ok {run : Run} (hrun : RunOk P G run) {S : St} {dfs : List Nat} {tm : T Value} {hp hp' : Hp} {ρ : Rho} {w : World} {v : Value} {b : Frame} {a : Act} {cs : List Frame} {ops : Array Oper} {i : Nat} {rest : List Nat} {k : List Item} {o : Oper}
    (c : CtxA P G hp ρ w) (hf : FS P ρ S dfs tm b a) (ho : ops[i]? = some o) (hw : Region.wanted o (yielded ops a.tmps) = true) (h : oper P run tm hp (bxOf P G o) = .ok v hp') :
    ∃ v' ρ' w', VR ρ' v v' ∧ Post P G hp hp' ρ ρ' w w' ∧ Steps P (lone (b.atR a (.inRegion ops (i :: rest) :: k)) cs w) (lone (b.atR (a.put o.dst v') (.inRegion ops rest :: k)) cs w') := by
  have fin : ∀ u, (b.atR a (.inRegion ops (i :: rest) :: k)).finish u = b.atR (a.put o.dst u) (.inRegion ops rest :: k) := fun u => by rw [Frame.finish_atR, ho]; rfl
  cases hb : bxOf P G o with
  | bad => rw [hb] at h; cases h
  | op f =>
    rw [hb] at h
    replace h : f tm hp = .ok v hp' := h
    have hd := bxOf_not_defer (P := P) (G := G) (o := o) (by rw [hb]; intro e; cases e)
    obtain ⟨h1, h2⟩ := bxOf_op hb
    have D := doer_op (P := P) (b := b) (k := k) (cs := cs) (w := w) (rest := rest) ho hw hd
    obtain ⟨nx, v', ρ', w', g1, g2, g3, g4⟩ := h2 tm hp v hp' h ρ w _ a.eval (c.ctx _) (fun x hx => hf.eval c.sat (h1 x hx)) (Nat.le_refl _)
    have := D.val nx v' w' g1 g2
    rw [fin] at this
    exact ⟨v', ρ', w', g3, g4, .one this⟩
  | call f =>
    rw [hb] at h
    replace h : come P run hp (f tm hp) = .ok v hp' := h
    have hd := bxOf_not_defer (P := P) (G := G) (o := o) (by rw [hb]; intro e; cases e)
    obtain ⟨h1, _, h2⟩ := bxOf_call hb
    have D := doer_op (P := P) (b := b) (k := k) (cs := cs) (w := w) (rest := rest) ho hw hd
    have hcr := h2 tm hp ρ w hp.next a.eval (c.ctx _) (fun x hx => hf.eval c.sat (h1 x hx)) (fun f => rfl)
    obtain ⟨v', ρ', w', g1, g2, g3⟩ := come_ok hrun c hcr D h
    rw [fin] at g3
    exact ⟨v', ρ', w', g1, g2, g3⟩

theorem FS.put {ρ : Rho} {S : St} {dfs : List Nat} {tm tm1 : T Value} {b : Frame} {a : Act} {dst : Option Tmp} {v' : Value} (h : FS P ρ S dfs tm b a) (ht : tmR ρ tm1 S.sz (a.put dst v').tmps) : FS P ρ S dfs tm1 b (a.put dst v') :=
  ⟨h.fn, h.kind, h.ro, h.rook, ht, by rw [← h.defers]; cases dst <;> rfl, h.dok, h.res⟩
end Go.Proofs.YtjdkfdhfodmbeaaDoor.Ax
