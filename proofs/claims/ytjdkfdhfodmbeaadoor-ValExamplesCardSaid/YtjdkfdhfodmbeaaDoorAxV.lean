/- An executor of closed runs: frames, whole. -/
import Derived.Test.YtjdkfdhfodmbeaaDoorAxU
import Derived.RangeFuncNested
import Derived.Below
namespace Go.Proofs.YtjdkfdhfodmbeaaDoor.Ax
open Go Go.RowKit
variable {P : Program} {G : Nat}

theorem act_eval (a : Act) (m : List Deferred) (g : Operand) : ({ tmps := a.tmps, defers := m } : Act).eval g = a.eval g := by cases g <;> rfl

theorem doer_range {b : Frame} {a : Act} {k : List Item} {cs : List Frame} {w w₁ : World} {g : Operand} {ps : Array Tmp} {as bd : Code} {l : Nat} {mark : List Deferred}
    (he : (Instr.enterLoop b.fn a.tmps ps as bd b.roundOf).run P w = .ok (l, mark) w₁) :
    Doer P (b.atR a (.code (.rangeFunc g ps as bd) :: k)) cs w (b.atR { a with defers := mark ++ a.defers } (.inRangeFunc l :: k)) w₁ (callV (a.eval g) #[.func (.yield l) #[] #[]]) := by
  have hev := Frame.eval_atR b { a with defers := mark ++ a.defers } (.inRangeFunc l :: k)
  simp only [Frame.atR] at hev
  have hs : (do let d ← resolve ({ tmps := a.tmps, defers := mark ++ a.defers } : Act).eval { callee := .value g, args := #[.const (.func (.yield l) #[] #[])], argTypes := #[] } 0; invoke d.target d.args : Sem Next) = callV (a.eval g) #[.func (.yield l) #[] #[]] := by
    rw [← act_eval a (mark ++ a.defers) g]
    have hm : (#[Operand.const (Value.func (.yield l) #[] #[])]).map ({ tmps := a.tmps, defers := mark ++ a.defers } : Act).eval = #[Value.func (.yield l) #[] #[]] := by simp [Act.eval]
    show (Deferred.ofValue _ (Array.map _ #[Operand.const (Value.func (.yield l) #[] #[])]) >>= _) = _
    rw [hm]
    rfl
  refine ⟨fun nx v w' hr hv => ?_, fun f args w' hr => ?_, fun l' f tmps as' bd' w' hr => ?_⟩
  · apply step_lone_go
    rcases hv with rfl | ⟨rfl, rfl⟩ <;> simp [stepG, stepG.exec, Frame.atR, Sem.runT_eq, he, GStep.bare_after, stepG.apply, hev, hs, hr]
  · apply step_lone_go
    simp [stepG, stepG.exec, Frame.atR, Sem.runT_eq, he, GStep.bare_after, stepG.apply, hev, hs, hr]
  · apply step_lone_go
    simp [stepG, stepG.exec, Frame.atR, Sem.runT_eq, he, GStep.bare_after, stepG.apply, hev, hs, hr]

section
variable {C : Con} {nest run : Run} {S : St} {dfs : List Nat} {k : List AItem} {tm : T Value} {hp hp' : Hp} {ρ : Rho} {w : World} {v : Value} {b : Frame} {a : Act} {k' : List Item} {cs : List Frame}

/-- A loop's record is laid. -/
theorem new_loop (c : CtxA P G hp ρ w) (hf : FS P ρ S dfs tm b a) {ps : Array Tmp} {as bd : Code} {d : Nat} (hd : ρ.ok d) :
    ∃ ρ1, Post P G hp (hp.new (.loop .ready none S.fn tm S.sz ps.toList as bd d)) ρ ρ1 w (w.alloc (.loop { state := .ready, pending := none, fn := b.fn, tmps := a.tmps, params := ps, assign := as, body := bd, defers := ρ.blk d })) ∧
      ρ1.ok hp.next ∧ ρ1.blk hp.next = w.heap.size := by
  have hfr := c.fresh hp.next (Nat.le_refl _)
  have le := ρ.add_le w.heap.size 0 0 0 hfr
  refine ⟨ρ.add hp.next w.heap.size 0 0 0, Post.newBlock c.sat hfr ?_, .inl rfl, if_pos rfl⟩
  refine ⟨le.ok d hd, a.tmps, ps, ?_, rfl, hf.tm.mono le⟩
  have : (ρ.add hp.next w.heap.size 0 0 0).blk hp.next = w.heap.size := if_pos rfl
  rw [this, World.more_at, le.blk d hd, hf.fn]

theorem enter_ok (c : CtxA P G hp ρ w) (hf : FS P ρ S dfs tm b a) {ps : Array Tmp} {as bd : Code} {K : Nat → List Nat → Hp → R} (h : xenter hp S.fn S.sz tm ps.toList as bd S.ro dfs K = .ok v hp') :
    ∃ n dfs1 hp1 ρ1 w1 mark, K n dfs1 hp1 = .ok v hp' ∧ Post P G hp hp1 ρ ρ1 w w1 ∧ ρ1.ok n ∧ FS P ρ1 S dfs1 tm b { a with defers := mark ++ a.defers } ∧
      (Instr.enterLoop b.fn a.tmps ps as bd b.roundOf).run P w = .ok (ρ1.blk n, mark) w1 := by
  unfold xenter at h
  cases hro : S.ro with
  | some l =>
    rw [hro] at h
    simp only at h
    split at h
    · rename_i st p fn tm' sz ps' as' bd' d hv
      rw [xnew_eq] at h
      obtain ⟨hok, hlt, hd, tmps, params, hh, hps, htm⟩ := c.sat.vis _ _ hv
      obtain ⟨ρ1, h1, h2, h3⟩ := new_loop (ps := ps) (as := as) (bd := bd) c hf hd
      refine ⟨_, dfs, _, ρ1, _, [], h, h1, h2, hf.mono h1.ext, ?_⟩
      have hbro : b.roundOf = some (ρ.blk l) := by rw [hf.ro, hro]; rfl
      rw [hbro, run_enterLoop_inner hh, h3]
    · cases h
  | none =>
    rw [hro] at h
    simp only [xnew_eq] at h
    have hfr := c.fresh hp.next (Nat.le_refl _)
    have p0 : Post P G hp (hp.new (.dfs true)) ρ (ρ.add hp.next w.heap.size 0 0 0) w (World.more w (.deferred (some []))) := by
      refine Post.newBlock c.sat hfr ?_
      have : (ρ.add hp.next w.heap.size 0 0 0).blk hp.next = w.heap.size := if_pos rfl
      show (World.more w (.deferred (some []))).heap[(ρ.add hp.next w.heap.size 0 0 0).blk hp.next]? = _
      rw [this, World.more_at]
      rfl
    have hb0 : (ρ.add hp.next w.heap.size 0 0 0).blk hp.next = w.heap.size := if_pos rfl
    have ok0 : (ρ.add hp.next w.heap.size 0 0 0).ok hp.next := .inl rfl
    obtain ⟨ρ1, h1, h2, h3⟩ := new_loop (ps := ps) (as := as) (bd := bd) (c.after p0) (hf.mono p0.ext) ok0
    have hf1 := (hf.mono p0.ext).mono h1.ext
    refine ⟨_, hp.next :: dfs, _, ρ1, _, [{ target := .collected w.heap.size, args := #[] }], h, p0.trans h1, h2, ?_, ?_⟩
    · refine ⟨hf1.fn, hf1.kind, hf1.ro, hf1.rook, hf1.tm, ?_, ?_, hf1.res⟩
      · show [({ target := .collected w.heap.size, args := #[] } : Deferred)] ++ a.defers = (hp.next :: dfs).map (markOf ρ1)
        rw [hf1.defers]
        show _ = markOf ρ1 hp.next :: _
        unfold markOf
        rw [h1.ext.blk _ ok0, hb0]
        rfl
      · intro d hd
        cases hd with
        | head => exact h1.ext.ok _ ok0
        | tail _ hd => exact hf1.dok d hd
    · have hbro : b.roundOf = none := by rw [hf.ro, hro]; rfl
      rw [hbro, run_enterLoop_outer, h3, hb0]
      have hsz : (World.more w (.deferred (some []))).heap.size = w.heap.size + 1 := by simp [World.more]
      rw [hsz]
      rfl

theorem range_item (hC : IsC P G C) (hnest : RunOk P G nest) (hrun : RunC P G C run) (c : CtxA P G hp ρ w) (hf : FS P ρ S dfs tm b a) (hk : TR ρ k k') (hcs : S.ro ≠ none → cs ≠ []) {f : Operand} {ps : Array Tmp} {as bd : Code} (hof : okOpd G f = true)
    (h : stepRange P nest run S dfs k tm hp f ps.toList as bd = .ok v hp') : C S hp hp' ρ w v (b.atR a (.code (.rangeFunc f ps as bd) :: k')) cs := by
  unfold stepRange at h
  obtain ⟨n, dfs1, hp1, ρ1, w1, mark, g1, g2, g3, g4, g5⟩ := enter_ok c hf h
  obtain ⟨u, q, g0, g1⟩ := onR_ok g1
  have c1 := c.after g2
  have hv := (hf.mono g2.ext).eval c1.sat hof
  have hcr := xcallV_ok (P := P) (G := G) (c1.ctx hp1.next) hv (.cons _ _ _ _ (.yield n g3) .nil)
  have D := doer_range (P := P) (k := k') (cs := cs) (g := f) g5
  obtain ⟨u', ρ2, w2, j1, j2, j3⟩ := come_ok hnest c1 hcr D g0
  rw [finish_atR_inRangeFunc] at j3
  have e := j2.ext.blk n g3
  refine go_on hC hrun c (g2.trans j2) (g4.mono j2.ext) (t1 := .endRangeFunc (ρ1.blk n) :: k') ?_ hcs j3 g1
  rw [← e]
  exact .cons _ _ _ _ (.endRange n (j2.ext.ok n g3)) ((hk.mono g2.ext).mono j2.ext)

theorem code_item (hreg : RegOk P G) (hC : IsC P G C) (hnest : RunOk P G nest) (hrun : RunC P G C run) (c : CtxA P G hp ρ w) (hf : FS P ρ S dfs tm b a) (hk : TR ρ k k') (hcs : S.ro ≠ none → cs ≠ []) (x : Code)
    (h : IBx.rec (motive := fun _ => R) (fun f => f nest run S dfs k tm hp) (ibCode P G x) = .ok v hp') : C S hp hp' ρ w v (b.atR a (.code x :: k')) cs := by
  have p0 := Post.refl c.sat
  cases x with
  | skip => exact go_on hC hrun c p0 hf hk hcs (.one stepR_skip) h
  | label l => exact go_on hC hrun c p0 hf hk hcs (.one stepR_label) h
  | seq x y => exact go_on hC hrun c p0 hf (.cons _ _ _ _ (.code x) (.cons _ _ _ _ (.code y) hk)) hcs (.one stepR_seq) h
  | block id x => exact go_on hC hrun c p0 hf (.cons _ _ _ _ (.code x) (.cons _ _ _ _ (.inBlock id) hk)) hcs (.one stepR_block) h
  | loop x => exact go_on hC hrun c p0 hf (.cons _ _ _ _ (.code x) (.cons _ _ _ _ (.inLoop x) hk)) hcs (.one stepR_loop) h
  | scope x => exact go_on hC hrun c p0 hf (.cons _ _ _ _ (.code x) (.cons _ _ _ _ (.inScope x) hk)) hcs (.one stepR_scope) h
  | refuse why => cases h
  | ret =>
    replace h : xleave P hp tm S.res S.ro dfs (some .ret) = .ok v hp' := h
    exact hC.leaf <| xleave_ok c.sat hf hcs h (fun hb => stepR_ret hb) (fun l u w' c rest hb e hr => by subst e; exact stepR_round_ret hb hf.kind hr)
  | exit id =>
    replace h : stepExit P run S dfs k tm hp id = .ok v hp' := h
    unfold stepExit at h
    obtain ⟨h1, h2⟩ := xexitTo_ok (id := id) hk
    cases hx : xexitTo id k with
    | some k1 =>
      rw [hx] at h
      obtain ⟨k1', e1, e2⟩ := h2 k1 hx
      exact go_on hC hrun c p0 hf e2 hcs (.one (stepR_exit e1)) h
    | none =>
      rw [hx] at h
      replace h : onSome S.ro .no (fun _ => xleave P hp tm S.res S.ro dfs (some (.exit id))) = .ok v hp' := h
      obtain ⟨l, hl, h⟩ := onSome_ok h
      refine hC.leaf <| xleave_ok c.sat hf hcs h (fun hb => ?_) (fun l u w' c rest hb e hr => by subst e; exact stepR_round_exit hb hf.kind (h1 hx) hr)
      rw [hf.ro, hl] at hb
      cases hb
  | goto l =>
    replace h : stepGoto run S dfs k tm hp l = .ok v hp' := h
    unfold stepGoto at h
    obtain ⟨k1, hx, h⟩ := onSome_ok h
    obtain ⟨k1', e1, e2⟩ := (xgotoIn_ok (l := l) hk).2 k1 hx
    exact go_on hC hrun c p0 hf e2 hcs (.one (stepR_goto e1)) h
  | cond x y z =>
    have h' : IBx.rec (motive := fun _ => R) (fun f => f nest run S dfs k tm hp) (cond (okOpd G x) (OBx.rec (motive := fun _ => IBx) (fun f =>
      .go fun _ run S dfs k tm hp => f tm fun v => onBool v .no fun t => pick t (run S dfs (.code y :: k) tm hp) (run S dfs (.code z :: k) tm hp)) (opBx x)) noBx) = .ok v hp' := h
    cases hx : okOpd G x with
    | false => rw [hx] at h'; cases h'
    | true =>
      obtain ⟨f, e1, e2⟩ := opBx_spec x
      rw [hx, cond_true, e1] at h'
      replace h' : f tm (fun v => onBool v .no fun t => pick t (run S dfs (.code y :: k) tm hp) (run S dfs (.code z :: k) tm hp)) = .ok v hp' := h'
      rw [e2] at h'
      obtain ⟨t, ht, h'⟩ := onBool_ok h'
      have hv := hf.eval c.sat hx
      rw [ht] at hv
      have hv' : a.eval x = .bool t := by generalize a.eval x = z at hv; cases hv; rfl
      have hst := stepR_cond (P := P) (b := b) (k := k') (cs := cs) (w := w) (x := y) (y := z) hv'
      cases t with
      | true => exact go_on hC hrun c p0 hf (.cons _ _ _ _ (.code y) hk) hcs (.one hst) h'
      | false => exact go_on hC hrun c p0 hf (.cons _ _ _ _ (.code z) hk) hcs (.one hst) h'
  | rangeFunc f ps as bd =>
    have h' : IBx.rec (motive := fun _ => R) (fun f => f nest run S dfs k tm hp) (cond (okOpd G f) (.go fun nest run S dfs k tm hp => stepRange P nest run S dfs k tm hp f ps.toList as bd) noBx) = .ok v hp' := h
    cases hx : okOpd G f with
    | false => rw [hx] at h'; cases h'
    | true => rw [hx] at h'; exact range_item hC hnest hrun c hf hk hcs hx h'
  | region id ops draw =>
    cases draw with
    | true =>
      have h' : IBx.rec (motive := fun _ => R) (fun f => f nest run S dfs k tm hp) (match mkPlan P G ops.toList with
        | some l => .go fun nest run S dfs k tm hp => xdraw (oper P nest) S.sz l [] [] tm hp fun tm hp => run S dfs k tm hp
        | none => noBx) = .ok v hp' := h
      cases hm : mkPlan P G ops.toList with
      | none => rw [hm] at h'; cases h'
      | some l =>
        rw [hm] at h'
        obtain ⟨tm1, hp1, ρ1, w1, a1, g1, g2, g3, g4⟩ := hreg nest ops l S dfs _ tm hp v hp' hnest hm h' ρ w b a cs id k' c hf
        exact go_on hC hrun c g2 g3 (hk.mono g2.ext) hcs g4 g1
    | false =>
      have h' : IBx.rec (motive := fun _ => R) (fun f => f nest run S dfs k tm hp) (List.rec (motive := fun _ => IBx) (.go fun _ run S dfs k tm hp => run S dfs k tm hp) (fun x l _ => .go fun _ run S dfs k tm hp => run S dfs (.ops ops (x :: l) :: k) tm hp) ops.toList) = .ok v hp' := h
      have hr := ops_range ops
      have hst := stepR_region (P := P) (b := b) (a := a) (k := k') (cs := cs) (w := w) (ops := ops) (id := id)
      cases hl : ops.toList with
      | nil =>
        rw [hl] at h' hr
        have h0 : List.range ops.size = [] := by
          cases hz : List.range ops.size with
          | nil => rfl
          | cons i l => rw [hz] at hr; cases hr
        rw [h0] at hst
        exact go_on hC hrun c p0 hf hk hcs (.head hst (.one stepR_region_end)) h'
      | cons x l =>
        rw [hl] at h' hr
        exact go_on hC hrun c p0 hf (.cons _ _ _ _ (.ops ops (x :: l) _ hr) hk) hcs (.one hst) h'
end

theorem step_ok (hreg : RegOk P G) {C : Con} (hC : IsC P G C) {nest run : Run} (hnest : RunOk P G nest) (hrun : RunC P G C run) : RunC P G C (Ax.step P G nest run) := by
  intro S dfs todo tm hp v hp' h ρ w b a todo' cs c hf ht hcs
  cases ht with
  | nil => exact hC.leaf <| xleave_ok c.sat hf hcs h (fun hb => stepR_end hb) (fun l u w' c rest hb e hr => by subst e; exact stepR_round_end hb hf.kind hr)
  | cons x y k k' hx hk =>
    replace h : IBx.rec (motive := fun _ => R) (fun f => f nest run S dfs k tm hp) (ibItem P G x) = .ok v hp' := h
    have p0 := Post.refl c.sat
    cases hx with
    | code x => exact code_item hreg hC hnest hrun c hf hk hcs x h
    | inBlock id => exact go_on hC hrun c p0 hf hk hcs (.one stepR_inBlock) h
    | inLoop x => exact go_on hC hrun c p0 hf (.cons _ _ _ _ (.code x) (.cons _ _ _ _ (.inLoop x) hk)) hcs (.one stepR_inLoop) h
    | inScope x => exact go_on hC hrun c p0 hf hk hcs (.one stepR_inScope) h
    | ops all l is hl => exact ops_item hC hnest hrun c hf hk hcs hl h
    | beginRound => exact begin_item hC hrun c hf hk hcs h
    | endRange l hl => exact endRange_item hC hrun c hf hk hcs h

theorem xseg_ok (hreg : RegOk P G) {C : Con} (hC : IsC P G C) {nest run : Run} (hnest : RunOk P G nest) (hrun : RunC P G C run) : ∀ n, RunC P G C (xseg P G nest n run)
  | 0 => hrun
  | n + 1 => step_ok hreg hC hnest (xseg_ok hreg hC hnest hrun n)

theorem xrun_ok (hreg : RegOk P G) : ∀ n, RunOk P G (xrun P G n)
  | 0 => by intro S dfs todo tm hp v hp' h; cases h
  | n + 1 => step_ok hreg isC_concl (xrun_ok hreg n) (xrun_ok hreg n)

/-- **A run that the executor carries out to true is one that the machine carries out to true.** -/
theorem xmain_ok (hreg : RegOk P G) {fuel : Nat} {f : FuncId} {hp : Hp} (hlim : hp.lim = hp.next) (h : xmain P G fuel f hp = true) {ρ : Rho} {w : World} (c : CtxA P G hp ρ w) :
    Calls P f #[] w fun e w' => e = .returned (.bool true) ∧ Below w.heap.size w w' := by
  intro cs
  unfold xmain at h
  cases hb : runBody P f with
  | none => rw [hb] at h; cases h
  | some body nt rs =>
    rw [hb] at h
    replace h : isTrue (xrun P G fuel ⟨f, nt, rs, none⟩ [] [.code body] .leaf hp) = true := h
    unfold runBody at hb
    split at hb
    · rename_i fn hf
      split at hb
      · rename_i cc hbd
        rw [fNat_eq] at hb
        cases hb
        cases hr : xrun P G fuel ⟨f, fn.ntmps, fn.results.toList, none⟩ [] [.code body] .leaf hp with
        | no => rw [hr] at h; cases h
        | ok v hp' =>
          rw [hr] at h
          have hv : v = .bool true ∧ hp'.wr = [] := by
            cases v <;> try (cases h; done)
            rename_i t
            cases t with
            | false => cases h
            | true =>
              refine ⟨rfl, ?_⟩
              replace h : pick true (isNone hp'.wr) false = true := h
              cases hw : hp'.wr with
              | nil => rfl
              | cons x l => rw [hw] at h; cases h
          obtain ⟨rfl, hwr⟩ := hv
          let b0 : Frame := { fn := f, tmps := #[], todo := [], defers := [], mode := .run, kind := .normal }
          let a0 : Act := ⟨#[] ++ Array.replicate (fn.ntmps - 0) undef, []⟩
          have htm : tmR ρ .leaf fn.ntmps a0.tmps := by
            have := args_tmR (ρ := ρ) (args := []) (args' := []) .nil fn.ntmps
            exact this
          have hfs : FS P ρ ⟨f, fn.ntmps, fn.results.toList, none⟩ [] .leaf b0 a0 :=
            ⟨rfl, rfl, rfl, fun l hl => (by cases hl), htm, rfl, fun d hd => (by cases hd), fun _ => ⟨fn, hf, rfl⟩⟩
          obtain ⟨v', ρ', w', k1, k2, k3⟩ := xrun_ok hreg fuel _ _ _ _ _ _ _ hr ρ w b0 a0 [.code body] cs c hfs (.cons _ _ _ _ (.code body) .nil) (fun e => absurd rfl e)
          obtain ⟨fr2, j1, j0, j2⟩ := k3
          cases k1
          have he : Frame.enter P f #[] .normal = b0.atR a0 [.code body] := by
            unfold Frame.enter
            simp only [hf, Option.map_some, Option.getD_some, Option.bind_some, hbd]
            rfl
          refine ⟨.returned (.bool true), w', fr2, ⟨rfl, k2.os, k2.tape, k2.output, k2.size, fun x hx => k2.frame x hx fun n _ hn => ?_⟩, ?_, j0, j2⟩
          · rw [hlim, hwr] at hn
            rcases hn with hn | hn
            · omega
            · cases hn
          · rw [he]; exact j1
      · cases hb
    · cases hb
end Go.Proofs.YtjdkfdhfodmbeaaDoor.Ax
