/- An executor of closed runs: every item. -/
import Derived.Test.YtjdkfdhfodmbeaaDoorAxT
namespace Go.Proofs.YtjdkfdhfodmbeaaDoor.Ax
open Go
variable {P : Program} {G : Nat}

theorem ops_range (ops : Array Oper) : ops.toList.map some = (List.range ops.size).map (fun i => ops[i]?) := by
  apply List.ext_getElem?
  intro i
  simp only [List.getElem?_map, Array.getElem?_toList]
  by_cases h : i < ops.size
  · rw [List.getElem?_range h]; simp [h]
  · have h2 : ops[i]? = none := by simp; omega
    rw [h2, List.getElem?_eq_none (by simp; omega)]; rfl

section
variable {C : Con} {nest run : Run} {S : St} {dfs : List Nat} {k : List AItem} {tm : T Value} {hp hp' : Hp} {ρ : Rho} {w : World} {v : Value} {b : Frame} {a : Act} {k' : List Item} {cs : List Frame}

theorem ops_item (hC : IsC P G C) (hnest : RunOk P G nest) (hrun : RunC P G C run) (c : CtxA P G hp ρ w) (hf : FS P ρ S dfs tm b a) (hk : TR ρ k k') (hcs : S.ro ≠ none → cs ≠ []) {all : Array Oper} {l : List Oper} {is : List Nat} (hl : l.map some = is.map (fun i => all[i]?))
    (h : IBx.rec (motive := fun _ => R) (fun f => f nest run S dfs k tm hp) (ibItem P G (.ops all l)) = .ok v hp') : C S hp hp' ρ w v (b.atR a (.inRegion all is :: k')) cs := by
  cases l with
  | nil =>
    cases is with
    | cons i is => cases hl
    | nil => exact go_on hC hrun c (.refl c.sat) hf hk hcs (.one stepR_region_end) h
  | cons o l =>
    cases is with
    | nil => cases hl
    | cons i is =>
      simp only [List.map_cons, List.cons.injEq] at hl
      obtain ⟨ho, hl⟩ := hl
      have ho : all[i]? = some o := ho.symm
      have hnext : ∀ ρ1, ρ.Le ρ1 → TR ρ1 (.ops all l :: k) (.inRegion all is :: k') := fun ρ1 le => .cons _ _ _ _ (.ops all l is hl) (hk.mono le)
      obtain ⟨d, hd⟩ : ∃ d, dstBx o.dst = .mk d := by
        cases hd : dstBx o.dst with
        | mk d => exact ⟨d, rfl⟩
      -- the operation is done
      have done : Region.wanted o (yielded all a.tmps) = true → andThen (oper P nest tm hp (bxOf P G o)) run S dfs (.ops all l :: k) tm d = .ok v hp' → C S hp hp' ρ w v (b.atR a (.inRegion all (i :: is) :: k')) cs := by
        intro hw h
        unfold andThen at h
        obtain ⟨u, q, g0, h⟩ := onR_ok h
        obtain ⟨u', ρ1, w1, g1, g2, g3⟩ := oper_ok (rest := is) (k := k') (cs := cs) hnest c hf ho hw g0
        obtain ⟨tm1, j1, j2⟩ := dst_ok (v' := u') hd (hf.tm.mono g2.ext) g1
        rw [j1] at h
        exact go_on hC hrun c g2 ((hf.mono g2.ext).put j2) (hnext ρ1 g2.ext) hcs g3 h
      -- it is not
      have skip : Region.wanted o (yielded all a.tmps) = false → (d tm S.sz undef fun tm => run S dfs (.ops all l :: k) tm hp) = .ok v hp' → C S hp hp' ρ w v (b.atR a (.inRegion all (i :: is) :: k')) cs := by
        intro hw h
        obtain ⟨tm1, j1, j2⟩ := dst_ok (v' := undef) hd hf.tm VR.undef
        rw [j1] at h
        have hst := stepR_op_skip (P := P) (b := b) (a := a) (k := k') (cs := cs) (w := w) (ops := all) (i := i) (rest := is) (by rw [ho]; exact hw)
        rw [ho] at hst
        exact go_on hC hrun c (.refl c.sat) (hf.put j2) (hnext ρ (.refl ρ)) hcs (.one hst) h
      have h' : IBx.rec (motive := fun _ => R) (fun f => f nest run S dfs k tm hp) (DBx.rec (motive := fun _ => IBx) (fun d => ibOp P all l (wantBx all.toList o.guard) (bxOf P G o) d) (dstBx o.dst)) = .ok v hp' := h
      rw [hd] at h'
      replace h' : IBx.rec (motive := fun _ => R) (fun f => f nest run S dfs k tm hp) (ibOp P all l (wantBx all.toList o.guard) (bxOf P G o) d) = .ok v hp' := h'
      cases hw : wantBx all.toList o.guard with
      | bad => rw [hw] at h'; cases h'
      | yes =>
        rw [hw] at h'
        refine done (want_yes hw _) ?_
        cases hb : bxOf P G o with
        | bad => rw [hb] at h'; cases h'
        | op f => rw [hb] at h'; exact h'
        | call f => rw [hb] at h'; exact h'
      | ask f =>
        rw [hw] at h'
        have h2 : IBx.rec (motive := fun _ => R) (fun f => f nest run S dfs k tm hp) (fBx (bxOf P G o) fun b => IBx.go fun nest run S dfs k tm hp => f tm (andThen (oper P nest tm hp b) run S dfs (.ops all l :: k) tm d) (d tm S.sz undef fun tm => run S dfs (.ops all l :: k) tm hp)) = .ok v hp' := h'
        rw [fBx_eq] at h2
        replace h2 : f tm (andThen (oper P nest tm hp (bxOf P G o)) run S dfs (.ops all l :: k) tm d) (d tm S.sz undef fun tm => run S dfs (.ops all l :: k) tm hp) = .ok v hp' := h2
        rcases want_ask hw hf.tm with ⟨e, hh⟩ | ⟨e, hh⟩
        · rw [hh] at h2; exact done e h2
        · rw [hh] at h2; exact skip e h2

theorem begin_item (hC : IsC P G C) (hrun : RunC P G C run) (c : CtxA P G hp ρ w) (hf : FS P ρ S dfs tm b a) (hk : TR ρ k k') (hcs : S.ro ≠ none → cs ≠ []) (h : xbegin hp S.ro (fun hp => run S dfs k tm hp) = .ok v hp') :
    C S hp hp' ρ w v (b.atR a (.beginRound :: k')) cs := by
  unfold xbegin at h
  cases hro : S.ro with
  | none => rw [hro] at h; cases h
  | some l =>
    rw [hro] at h
    simp only at h
    split at h
    · rename_i p fn tm' sz ps as bd d hv
      rw [Hp.set_eq] at h
      obtain ⟨hok, r, hh, e1, e2, hpost⟩ := loop_upd (st' := .busy) (pend' := p) c.sat hv
      have hr := run_beginRound (P := P) hh e1
      rw [← e2] at hpost
      have hst := stepR_beginRound (P := P) (b := b) (a := a) (k := k') (cs := cs) (w := w) (by rw [hf.ro, hro]; rfl) hr
      rw [← e2] at h
      exact go_on hC hrun c hpost hf hk hcs (.one hst) h
    · cases h

theorem endRange_item (hC : IsC P G C) (hrun : RunC P G C run) (c : CtxA P G hp ρ w) (hf : FS P ρ S dfs tm b a) (hk : TR ρ k k') (hcs : S.ro ≠ none → cs ≠ []) {l : Nat} (h : (xendRange hp l fun p hp => onSome p (run S dfs k tm hp) fun c => run S dfs (.code c :: k) tm hp) = .ok v hp') :
    C S hp hp' ρ w v (b.atR a (.endRangeFunc (ρ.blk l) :: k')) cs := by
  have fin : ∀ st p fn tm' sz ps as bd d, hp.vis l = some (.loop st p fn tm' sz ps as bd d) → st ≠ .busy →
      onSome p (run S dfs k tm (hp.upd l (some (.loop .exhausted p fn tm' sz ps as bd d)))) (fun c => run S dfs (.code c :: k) tm (hp.upd l (some (.loop .exhausted p fn tm' sz ps as bd d)))) = .ok v hp' →
      C S hp hp' ρ w v (b.atR a (.endRangeFunc (ρ.blk l) :: k')) cs := by
    intro st p fn tm' sz ps as bd d hv hne h
    obtain ⟨hok, r, hh, e1, e2, hpost⟩ := loop_upd (st' := .exhausted) (pend' := p) c.sat hv
    have hr := run_endLoop (P := P) hh (by rw [e1]; exact hne)
    rw [← e2] at hpost
    have hst := stepR_endRangeFunc (P := P) (b := b) (a := a) (k := k') (cs := cs) (w := w) hr
    rw [e2] at hst hpost
    cases p with
    | none => exact go_on hC hrun c hpost hf hk hcs (.one hst) h
    | some cc => exact go_on hC hrun c hpost hf (.cons _ _ _ _ (.code cc) hk) hcs (.one hst) h
  unfold xendRange at h
  split at h
  · rename_i p fn tm' sz ps as bd d hv
    rw [Hp.set_eq] at h
    exact fin _ _ _ _ _ _ _ _ _ hv (by intro e; cases e) h
  · rename_i p fn tm' sz ps as bd d hv
    rw [Hp.set_eq] at h
    exact fin _ _ _ _ _ _ _ _ _ hv (by intro e; cases e) h
  · cases h
end
end Go.Proofs.YtjdkfdhfodmbeaaDoor.Ax
