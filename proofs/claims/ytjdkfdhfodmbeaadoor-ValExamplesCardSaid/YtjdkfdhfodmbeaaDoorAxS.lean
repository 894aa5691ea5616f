/- An executor of closed runs: how activations end. -/
import Derived.Test.YtjdkfdhfodmbeaaDoorAxR
namespace Go.Proofs.YtjdkfdhfodmbeaaDoor.Ax
open Go
variable {P : Program} {G : Nat}

theorem putObj_only (w : World) (b : Nat) (o : Obj) : Only b w (w.putObj b o) :=
  ⟨by simp [World.putObj], fun j hj => World.putObj_heap_other hj, rfl, rfl, rfl⟩

theorem loop_upd {hp : Hp} {ρ : Rho} {w : World} {l : Nat} {st st' : LoopState} {pend pend' : Option Code} {fn : FuncId} {tm : T Value} {sz : Nat} {ps : List Tmp} {a b : Code} {d : Nat}
    (hs : Sat P G hp ρ w) (hv : hp.vis l = some (.loop st pend fn tm sz ps a b d)) :
    ρ.ok l ∧ ∃ r : Loop, w.heap[ρ.blk l]? = some (.loop r) ∧ r.state = st ∧ r.pending = pend ∧
      Post P G hp (hp.upd l (some (.loop st' pend' fn tm sz ps a b d))) ρ ρ w (w.putObj (ρ.blk l) (.loop { r with state := st', pending := pend' })) := by
  obtain ⟨hok, hlt, hd, tmps, params, hh, hps, htm⟩ := hs.vis _ _ hv
  refine ⟨hok, _, hh, rfl, rfl, Post.upd hs hv (putObj_only _ _ _) ⟨hd, tmps, params, ?_, hps, htm⟩⟩
  exact World.putObj_heap_same hlt

theorem xendRound_ok {hp hp' : Hp} {ρ : Rho} {w : World} {l : Nat} {jump : Option Code} {v : Value} (hs : Sat P G hp ρ w) (h : xendRound hp l jump = .ok v hp') :
    ∃ v' w', (Instr.endRound (ρ.blk l) jump).run P w = .ok v' w' ∧ VR ρ v v' ∧ Post P G hp hp' ρ ρ w w' := by
  unfold xendRound at h
  split at h
  · rename_i st pend fn tm sz ps a b d hv
    cases jump with
    | none =>
      have h' : hp.set l (some (.loop .ready none fn tm sz ps a b d)) (fun hp => R.ok (.bool true) hp) = .ok v hp' := h
      rw [Hp.set_eq] at h'
      cases h'
      obtain ⟨hok, r, hh, e1, e2, hpost⟩ := loop_upd (st' := .ready) (pend' := none) hs hv
      exact ⟨_, _, run_endRound none hh, .bool true, hpost⟩
    | some c =>
      have h' : hp.set l (some (.loop .done (some c) fn tm sz ps a b d)) (fun hp => R.ok (.bool false) hp) = .ok v hp' := h
      rw [Hp.set_eq] at h'
      cases h'
      obtain ⟨hok, r, hh, e1, e2, hpost⟩ := loop_upd (st' := .done) (pend' := some c) hs hv
      exact ⟨_, _, run_endRound (some c) hh, .bool false, hpost⟩
  · cases h

/-- A result of an activation. -/
def resultOf (tmps : Array Value) : ResultVar → Sem Value
  | .tmp t => pure (tmps.getD t undef)
  | .cell a t => do loadVar t (← asAddr (tmps.getD a undef))

theorem xresults_ok {hp hp' : Hp} {ρ : Rho} {w : World} {tm : T Value} {sz : Nat} {tmps : Array Value} {v : Value} (c : Sat P G hp ρ w) (ht : tmR ρ tm sz tmps) : ∀ (rs : List ResultVar) (k : List Value → R), xresults P hp tm rs k = .ok v hp' →
    ∃ vs vs', k vs = .ok v hp' ∧ LR ρ vs vs' ∧ (rs.mapM (resultOf tmps)).run P w = .ok vs' w := by
  intro rs
  induction rs with
  | nil => intro k h; exact ⟨[], [], h, .nil, rfl⟩
  | cons r rs ih =>
    intro k h
    cases r with
    | tmp t =>
      have h' : fHead (evA tm (.tmp t)) (fun v => xresults P hp tm rs fun vs => k (v :: vs)) = .ok v hp' := h
      rw [fHead_eq] at h'
      obtain ⟨vs, vs', g1, g2, g3⟩ := ih _ h'
      refine ⟨_, tmps.getD t undef :: vs', g1, .cons _ _ _ _ (ht.2 t) g2, ?_⟩
      rw [List.mapM_cons, Sem.run_bind]
      show Result.andThen (.ok (tmps.getD t undef) w) _ = _
      rw [Result.andThen_ok, Sem.run_bind, g3]
      rfl
    | cell a t =>
      have h' : onR (xload P t (evA tm (.tmp a)) hp) .no (fun v _ => xresults P hp tm rs fun vs => k (v :: vs)) = .ok v hp' := h
      obtain ⟨u, q, g0, h'⟩ := onR_ok h'
      obtain ⟨rfl, u', k1, k2⟩ := xload_ok c g0 (ht.2 a)
      obtain ⟨vs, vs', g1, g2, g3⟩ := ih _ h'
      refine ⟨_, u' :: vs', g1, .cons _ _ _ _ k2 g2, ?_⟩
      rw [List.mapM_cons, Sem.run_bind]
      have : (resultOf tmps (.cell a t)).run P w = .ok u' w := k1
      rw [this, Result.andThen_ok, Sem.run_bind, g3]
      rfl

theorem tupled_vr {ρ : Rho} {vs vs' : List Value} (h : LR ρ vs vs') : VR ρ (tupled vs) (tupled vs') := by
  cases h with
  | nil => exact .tuple [] [] .nil
  | cons x x' l l' hx hl =>
    cases hl with
    | nil => exact hx
    | cons y y' m m' hy hm => exact .tuple _ _ (.cons _ _ _ _ hx (.cons _ _ _ _ hy hm))

theorem run_results {fn : Func} {tmps : Array Value} {w : World} {vs' : List Value} (h : (fn.results.toList.mapM (resultOf tmps)).run P w = .ok vs' w) : (results fn tmps).run P w = .ok (tupled vs') w := by
  have e : results fn tmps = (fn.results.mapM (resultOf tmps) >>= fun vs => pure (if h : vs.size = 1 then vs[0] else .tuple vs)) := by
    unfold results
    have e2 : (fun r => match r with | ResultVar.tmp t => (pure (tmps.getD t undef) : Sem Value) | ResultVar.cell a t => do loadVar t (← asAddr (tmps.getD a undef))) = resultOf tmps := by
      funext r
      cases r <;> rfl
    rw [← e2]
    rfl
  rw [e, Sem.run_bind, Array.mapM_eq_mapM_toList]
  rw [show (List.toArray <$> fn.results.toList.mapM (resultOf tmps)) = (fn.results.toList.mapM (resultOf tmps) >>= fun l => pure l.toArray) from map_eq_pure_bind _ _]
  rw [Sem.run_bind, h, Result.andThen_ok]
  show Result.ok _ _ = _
  cases vs' with
  | nil => rfl
  | cons x l => cases l <;> rfl

theorem xtake_ok {ρ : Rho} {cs : List Frame} {v : Value} {hp' : Hp} {fr : Frame} (hm : fr.mode = .returning) : ∀ (dfs : List Nat) (hp : Hp) (k : Hp → R) (w : World), Sat P G hp ρ w → (∀ d ∈ dfs, ρ.ok d) → xtake dfs hp k = .ok v hp' →
    ∃ hp1 w1, k hp1 = .ok v hp' ∧ Post P G hp hp1 ρ ρ w w1 ∧ Steps P (lone { fr with defers := dfs.map (markOf ρ) } cs w) (lone { fr with defers := [] } cs w1) := by
  intro dfs
  induction dfs with
  | nil => intro hp k w hs _ h; exact ⟨hp, w, h, .refl hs, .refl P _⟩
  | cons d ds ih =>
    intro hp k w hs hd h
    unfold xtake at h
    split at h
    · rename_i hv
      rw [Hp.set_eq] at h
      obtain ⟨hok, hlt, hsat⟩ := hs.vis _ _ hv
      have hheap : w.heap[ρ.blk d]? = some (.deferred (some [])) := hsat
      have hpost : Post P G hp (hp.upd d (some (.dfs false))) ρ ρ w (w.putObj (ρ.blk d) (.deferred none)) :=
        Post.upd hs hv (putObj_only _ _ _) (World.putObj_heap_same hlt)
      obtain ⟨hp1, w1, g1, g2, g3⟩ := ih _ k _ hpost.sat (fun x hx => hd x (.tail _ hx)) h
      refine ⟨hp1, w1, g1, hpost.trans g2, .head ?_ g3⟩
      have := step_collected (P := P) (fr := { fr with defers := (d :: ds).map (markOf ρ) }) (cs := cs) (w := w) (d := markOf ρ d) (ds := ds.map (markOf ρ)) (by rw [hm]; intro e; cases e) rfl rfl (run_takeDeferred hheap)
      exact this
    · cases h

theorem xleave_ok {S : St} {dfs : List Nat} {tm : T Value} {b : Frame} {a : Act} {todo : List Item} {hp hp' : Hp} {ρ : Rho} {w : World} {cs : List Frame} {jump : Option Code} {v : Value} (hs : Sat P G hp ρ w) (hf : FS P ρ S dfs tm b a)
    (hcs : S.ro ≠ none → cs ≠ []) (h : xleave P hp tm S.res S.ro dfs jump = .ok v hp')
    (hn : b.roundOf = none → Go.step P (lone (b.atR a todo) cs w) = .next (lone { b.atR a todo with mode := .returning } cs w))
    (hr : ∀ l u w' c rest, b.roundOf = some l → cs = c :: rest → (Instr.endRound l jump).run P w = .ok u w' → Go.step P (lone (b.atR a todo) cs w) = .next (lone (c.finish u) rest w')) :
    ∃ v' ρ' w', VR ρ' v v' ∧ Post P G hp hp' ρ ρ' w w' ∧ Ends P S (b.atR a todo) cs w v' w' := by
  unfold xleave at h
  cases hro : S.ro with
  | none =>
    rw [hro] at h
    replace h : xtake dfs hp (fun hp => xresults P hp tm S.res fun vs => .ok (tupled vs) hp) = .ok v hp' := h
    have hbro : b.roundOf = none := by rw [hf.ro, hro]; rfl
    obtain ⟨hp1, w1, g1, g2, g3⟩ := xtake_ok (cs := cs) (fr := { b.atR a todo with mode := .returning }) rfl dfs hp _ w hs hf.dok h
    obtain ⟨vs, vs', k1, k2, k3⟩ := xresults_ok g2.sat hf.tm _ _ g1
    cases k1
    obtain ⟨fn, j1, j2⟩ := hf.res hro
    refine ⟨tupled vs', ρ, w1, tupled_vr k2, g2, ?_⟩
    unfold Ends
    rw [hro]
    refine ⟨{ b.atR a todo with mode := .returning, defers := [] }, .head (hn hbro) ?_, ?_, ?_⟩
    · have e : ({ b.atR a todo with mode := .returning } : Frame) = { ({ b.atR a todo with mode := .returning } : Frame) with defers := dfs.map (markOf ρ) } := by
        rw [← hf.defers]; rfl
      rw [e]
      exact g3
    · exact hf.fn
    · exact ⟨rfl, rfl, hf.kind, fn, by show P.funcs[b.fn]? = _; rw [hf.fn]; exact j1, run_results (by rw [j2]; exact k3)⟩
  | some l =>
    rw [hro] at h
    cases dfs with
    | cons d ds => cases h
    | nil =>
      replace h : xendRound hp l jump = .ok v hp' := h
      obtain ⟨v', w', g1, g2, g3⟩ := xendRound_ok hs h
      refine ⟨v', ρ, w', g2, g3, ?_⟩
      unfold Ends
      rw [hro]
      cases cs with
      | nil => exact absurd rfl (hcs (by rw [hro]; intro e; cases e))
      | cons c rest =>
        refine ⟨c, rest, rfl, .one (hr _ _ _ c rest (by rw [hf.ro, hro]; rfl) rfl g1)⟩
end Go.Proofs.YtjdkfdhfodmbeaaDoor.Ax
