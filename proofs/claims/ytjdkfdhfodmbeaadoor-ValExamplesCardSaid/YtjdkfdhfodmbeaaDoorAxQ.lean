/- An executor of closed runs: frames. -/
import Derived.Test.YtjdkfdhfodmbeaaDoorAxP
import Derived.AtR
import Derived.RangeFuncIn
import Derived.RangeFuncRecord
import Derived.RangeFuncLeaves
namespace Go.Proofs.YtjdkfdhfodmbeaaDoor.Ax
open Go
variable {P : Program} {G : Nat}

structure CtxA (P : Program) (G : Nat) (hp : Hp) (ρ : Rho) (w : World) : Prop where
  sat : Sat P G hp ρ w
  fresh : ∀ n, hp.next ≤ n → ¬ ρ.ok n
theorem CtxA.ctx {hp : Hp} {ρ : Rho} {w : World} (c : CtxA P G hp ρ w) (N : Nat) : Ctx P G hp ρ w N := ⟨c.sat, fun n h _ => c.fresh n h⟩
theorem CtxA.after {hp hp' : Hp} {ρ ρ' : Rho} {w w' : World} (c : CtxA P G hp ρ w) (p : Post P G hp hp' ρ ρ' w w') : CtxA P G hp' ρ' w' :=
  ⟨p.sat, fun n hn h => by
    rcases p.new n h with h | h
    · exact c.fresh n (Nat.le_trans p.next hn) h
    · omega⟩

inductive IR (ρ : Rho) : AItem → Item → Prop
  | code (c : Code) : IR ρ (.code c) (.code c)
  | inBlock (id : Nat) : IR ρ (.inBlock id) (.inBlock id)
  | inLoop (b : Code) : IR ρ (.inLoop b) (.inLoop b)
  | inScope (b : Code) : IR ρ (.inScope b) (.inScope b)
  | ops (all : Array Oper) (l : List Oper) (is : List Nat) : l.map some = is.map (fun i => all[i]?) → IR ρ (.ops all l) (.inRegion all is)
  | beginRound : IR ρ .beginRound .beginRound
  | endRange (l : Nat) : ρ.ok l → IR ρ (.endRange l) (.endRangeFunc (ρ.blk l))
inductive TR (ρ : Rho) : List AItem → List Item → Prop
  | nil : TR ρ [] []
  | cons (x : AItem) (y : Item) (k : List AItem) (k' : List Item) : IR ρ x y → TR ρ k k' → TR ρ (x :: k) (y :: k')

theorem IR.mono {ρ ρ' : Rho} (le : ρ.Le ρ') {x : AItem} {y : Item} (h : IR ρ x y) : IR ρ' x y := by
  cases h with
  | endRange l hl => rw [← le.blk l hl]; exact .endRange l (le.ok l hl)
  | ops all l is h => exact .ops all l is h
  | _ => constructor
theorem TR.mono {ρ ρ' : Rho} (le : ρ.Le ρ') {k : List AItem} {k' : List Item} (h : TR ρ k k') : TR ρ' k k' := by
  induction h with
  | nil => exact .nil
  | cons x y k k' h _ ih => exact .cons x y k k' (h.mono le) ih

theorem xexitTo_ok {ρ : Rho} {id : Nat} {k : List AItem} {k' : List Item} (h : TR ρ k k') :
    (xexitTo id k = none → exitTo id k' = none) ∧ ∀ k1, xexitTo id k = some k1 → ∃ k1', exitTo id k' = some k1' ∧ TR ρ k1 k1' := by
  induction h with
  | nil => exact ⟨fun _ => rfl, fun k1 h => by cases h⟩
  | cons x y k k' hx hk ih =>
    cases hx with
    | inBlock id' =>
      show (cond (Nat.beq id' id) (some k) (xexitTo id k) = none → (if id' == id then some k' else exitTo id k') = none) ∧ ∀ k1, cond (Nat.beq id' id) (some k) (xexitTo id k) = some k1 → ∃ k1', (if id' == id then some k' else exitTo id k') = some k1' ∧ TR ρ k1 k1'
      by_cases e : id' = id
      · subst e
        simp only [beq_self_eq_true, if_true]
        have : Nat.beq id' id' = true := Nat.beq_refl id'
        rw [this, cond_true]
        exact ⟨fun h => (by cases h), fun k1 h => by cases h; exact ⟨k', rfl, hk⟩⟩
      · have : Nat.beq id' id = false := by
          cases hb : Nat.beq id' id with
          | false => rfl
          | true => exact absurd (Nat.eq_of_beq_eq_true hb) e
        rw [this, cond_false]
        have e2 : (id' == id) = false := by simpa using e
        rw [e2]
        exact ih
    | _ => exact ih

theorem xgotoIn_ok {ρ : Rho} {l : Nat} {k : List AItem} {k' : List Item} (h : TR ρ k k') :
    (xgotoIn l k = none → gotoIn l k' = none) ∧ ∀ k1, xgotoIn l k = some k1 → ∃ k1', gotoIn l k' = some k1' ∧ TR ρ k1 k1' := by
  induction h with
  | nil => exact ⟨fun _ => rfl, fun k1 h => by cases h⟩
  | cons x y k k' hx hk ih =>
    cases hx with
    | inScope body =>
      unfold xgotoIn gotoIn
      cases hf : findLabel body l with
      | none => exact ih
      | some rest => exact ⟨fun h => (by cases h), fun k1 h => by cases h; exact ⟨_, rfl, .cons _ _ _ _ (.code _) (.cons _ _ _ _ (.inScope _) hk)⟩⟩
    | _ => exact ih

def markOf (ρ : Rho) (d : Nat) : Deferred := { target := .collected (ρ.blk d), args := #[] }

structure FS (P : Program) (ρ : Rho) (S : St) (dfs : List Nat) (tm : T Value) (b : Frame) (a : Act) : Prop where
  fn : b.fn = S.fn
  kind : b.kind = .normal
  ro : b.roundOf = S.ro.map ρ.blk
  rook : ∀ l, S.ro = some l → ρ.ok l
  tm : tmR ρ tm S.sz a.tmps
  defers : a.defers = dfs.map (markOf ρ)
  dok : ∀ d ∈ dfs, ρ.ok d
  res : S.ro = none → ∃ fn, P.funcs[S.fn]? = some fn ∧ fn.results.toList = S.res

theorem FS.mono {ρ ρ' : Rho} {S : St} {dfs : List Nat} {tm : T Value} {b : Frame} {a : Act} (h : FS P ρ S dfs tm b a) (le : ρ.Le ρ') : FS P ρ' S dfs tm b a := by
  refine ⟨h.fn, h.kind, ?_, fun l hl => le.ok l (h.rook l hl), h.tm.mono le, ?_, fun d hd => le.ok d (h.dok d hd), h.res⟩
  · rw [h.ro]
    cases hs : S.ro with
    | none => rfl
    | some l => simp [le.blk l (h.rook l hs)]
  · rw [h.defers]
    apply List.map_congr_left
    intro d hd
    unfold markOf
    rw [le.blk d (h.dok d hd)]

theorem FS.eval {hp : Hp} {w : World} {ρ : Rho} {S : St} {dfs : List Nat} {tm : T Value} {b : Frame} {a : Act} (h : FS P ρ S dfs tm b a) (c : Sat P G hp ρ w) {x : Operand} (hx : okOpd G x = true) : VR ρ (evA tm x) (a.eval x) := by
  cases x with
  | tmp t => exact h.tm.2 t
  | const v => exact pl_vr hx
  | global g =>
    have hg : g < G := by
      have : lt g G = true := hx
      simpa using this
    obtain ⟨h1, h2, h3⟩ := c.glob g hg
    have := VR.ptr (ρ := ρ) g 0 h1
    rw [h2, h3] at this
    exact this
  | func f => exact .func _ _ _ _ _ rfl .nil .nil

theorem dst_ok {ρ : Rho} {tm : T Value} {sz : Nat} {a : Act} {dst : Option Tmp} {v v' : Value} {f : Dst} (hd : dstBx dst = .mk f) (ht : tmR ρ tm sz a.tmps) (hv : VR ρ v v') :
    ∃ tm1, (∀ k, f tm sz v k = k tm1) ∧ tmR ρ tm1 sz (a.put dst v').tmps := by
  cases dst with
  | none => cases hd; exact ⟨tm, fun _ => rfl, ht⟩
  | some d =>
    obtain ⟨s, e, hs⟩ := T.setPath_spec (α := Value) (β := R) (d + 1) d (Nat.lt_succ_self d)
    have : dstBx (some d) = T.SBx.rec (motive := fun _ => DBx) (fun s => .mk fun tm sz v k => pick (lt d sz) (s tm v k) (k tm)) (T.setPath (β := R) (T.pathF (d + 1) d)) := rfl
    rw [this, e] at hd
    cases hd
    obtain ⟨h1, h2⟩ := ht
    obtain ⟨t', g1, g2⟩ := hs tm v
    cases hl : lt d sz with
    | false =>
      refine ⟨tm, fun k => by show pick (lt d sz) (s tm v k) (k tm) = _; rw [hl]; rfl, ?_⟩
      have hge : ¬ d < a.tmps.size := by
        rw [h1]
        intro hlt
        have : lt d sz = true := by simpa using hlt
        rw [hl] at this; cases this
      have : (a.put (some d) v').tmps = a.tmps := by
        simp only [Act.put]
        rw [Array.setIfInBounds, dif_neg hge]
      rw [this]
      exact ⟨h1, h2⟩
    | true =>
      have hlt : d < a.tmps.size := by rw [h1]; simpa using hl
      refine ⟨t', fun k => by show pick (lt d sz) (s tm v k) (k tm) = _; rw [hl]; exact g1 k, ?_, fun t => ?_⟩
      · simp [Act.put, h1]
      · show VR ρ (onSome (t'.get t) undef fun v => v) _
        rw [g2]
        simp only [Act.put]
        by_cases e : t = d
        · subst e
          rw [if_pos rfl]
          have : (a.tmps.setIfInBounds t v').getD t undef = v' := by simp [Array.getD, hlt]
          rw [this]
          exact hv
        · rw [if_neg e]
          have : (a.tmps.setIfInBounds d v').getD t undef = a.tmps.getD t undef := by
            simp only [Array.getD_eq_getD_getElem?, Array.getElem?_setIfInBounds]
            rw [if_neg (fun h => e h.symm)]
          rw [this]
          exact h2 t

/-! Steps. -/
section
variable {b : Frame} {a : Act} {k : List Item} {cs : List Frame} {w : World} {ops : Array Oper} {i : Nat} {rest : List Nat} {o : Oper}

/-- A step of a frame that runs s at w1: what it answers goes to fr1. -/
structure Doer (P : Program) (fr : Frame) (cs : List Frame) (w : World) (fr1 : Frame) (w1 : World) (s : Sem Next) : Prop where
  val : ∀ nx v w', s.run P w1 = .ok nx w' → (nx = .value v ∨ (nx = .skip ∧ v = undef)) → Go.step P (lone fr cs w) = .next (lone (fr1.finish v) cs w')
  enter : ∀ f args w', s.run P w1 = .ok (.enter f args) w' → Go.step P (lone fr cs w) = .next (lone (Frame.enter P f args .normal) (fr1 :: cs) w')
  round : ∀ l f tmps assign body w', s.run P w1 = .ok (.round l f tmps assign body) w' → Go.step P (lone fr cs w) = .next (lone (Frame.round l f tmps assign body .normal) (fr1 :: cs) w')

theorem doer_op (ho : ops[i]? = some o) (hw : Region.wanted o (yielded ops a.tmps) = true) (hd : ∀ c, o.op ≠ .defer c) :
    Doer P (b.atR a (.inRegion ops (i :: rest) :: k)) cs w (b.atR a (.inRegion ops (i :: rest) :: k)) w (execOp a.eval o) := by
  have e := stepGR_op (P := P) (b := b) (a := a) (k := k) (cs := cs) (w := w) (rest := rest) ho hw
  rw [Oper.semAt_eq _ _ _ hd] at e
  refine ⟨fun nx v w' hr hv => ?_, fun f args w' hr => ?_, fun l f tmps as bd w' hr => ?_⟩
  · apply step_lone_go
    rw [e]
    rcases hv with rfl | ⟨rfl, rfl⟩ <;> simp [stepG.apply, Sem.runT_eq, hr, GStep.bare_after]
  · apply step_lone_go
    rw [e]
    simp [stepG.apply, Sem.runT_eq, hr, GStep.bare_after, Frame.atR]
  · apply step_lone_go
    rw [e]
    simp [stepG.apply, Sem.runT_eq, hr, GStep.bare_after, Frame.atR]
end

/-- How an activation ends. -/
def Ends (P : Program) (S : St) (fr : Frame) (cs : List Frame) (w : World) (v' : Value) (w' : World) : Prop :=
  match S.ro with
  | none => ∃ fr1, Steps P (lone fr cs w) (lone fr1 cs w') ∧ fr1.fn = S.fn ∧ fr1.leaving P w' (.returned v')
  | some _ => ∃ c rest, cs = c :: rest ∧ Steps P (lone fr cs w) (lone (c.finish v') rest w')

theorem Ends.head {S : St} {fr fr1 : Frame} {cs : List Frame} {w w1 w' : World} {v' : Value} (h : Steps P (lone fr cs w) (lone fr1 cs w1)) (g : Ends P S fr1 cs w1 v' w') : Ends P S fr cs w v' w' := by
  unfold Ends at *
  cases hs : S.ro with
  | none => rw [hs] at g; obtain ⟨f, a, b⟩ := g; exact ⟨f, h.trans a, b⟩
  | some l => rw [hs] at g; obtain ⟨c, r, a, b⟩ := g; exact ⟨c, r, a, h.trans b⟩

/-- What a run of frames says. -/
def RunOk (P : Program) (G : Nat) (run : Run) : Prop :=
  ∀ S dfs todo tm hp v hp', run S dfs todo tm hp = .ok v hp' → ∀ ρ w b a todo' cs, CtxA P G hp ρ w → FS P ρ S dfs tm b a → TR ρ todo todo' → (S.ro ≠ none → cs ≠ []) →
    ∃ v' ρ' w', VR ρ' v v' ∧ Post P G hp hp' ρ ρ' w w' ∧ Ends P S (b.atR a todo') cs w v' w'
end Go.Proofs.YtjdkfdhfodmbeaaDoor.Ax
