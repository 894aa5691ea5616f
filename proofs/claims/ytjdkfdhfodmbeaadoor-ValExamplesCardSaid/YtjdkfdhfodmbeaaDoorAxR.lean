/- An executor of closed runs: calls made. -/
import Derived.Test.YtjdkfdhfodmbeaaDoorAxQ
namespace Go.Proofs.YtjdkfdhfodmbeaaDoor.Ax
open Go
variable {P : Program} {G : Nat}

theorem args_tmR {ρ : Rho} {args args' : List Value} (hl : LR ρ args args') (nt : Nat) :
    tmR ρ (T.setList args .leaf 0) (pick (Nat.ble args.length nt) nt args.length) ((⟨args'⟩ : Array Value) ++ Array.replicate (nt - (⟨args'⟩ : Array Value).size) undef) := by
  have hlen := hl.length
  refine ⟨?_, fun t => ?_⟩
  · simp only [Array.size_append, Array.size_replicate]
    show args'.length + (nt - args'.length) = _
    cases hb : Nat.ble args.length nt with
    | true => have := Nat.le_of_ble_eq_true hb; simp only [pick_true]; omega
    | false =>
      have : ¬ args.length ≤ nt := fun h => by rw [Nat.ble_eq_true_of_le h] at hb; cases hb
      simp only [pick_false]; omega
  · show VR ρ (onSome ((T.setList args .leaf 0).get t) undef fun v => v) _
    rw [T.get_setList]
    by_cases h : t < args.length
    · rw [if_pos ⟨Nat.zero_le _, by omega⟩]
      obtain ⟨h1, h2⟩ | ⟨v, v', h1, h2, h3⟩ := hl.get t
      · rw [List.getElem?_eq_none_iff] at h1; omega
      · rw [Nat.sub_zero, h1]
        have hs : t < (⟨args'⟩ : Array Value).size := by show t < args'.length; omega
        have : ((⟨args'⟩ : Array Value) ++ Array.replicate (nt - (⟨args'⟩ : Array Value).size) undef).getD t undef = v' := by
          rw [Array.getD_eq_getD_getElem?, Array.getElem?_append_left hs]
          have : (⟨args'⟩ : Array Value)[t]? = args'[t]? := by simp
          rw [this, h2]; rfl
        rw [this]
        exact h3
    · rw [if_neg (by omega)]
      have hs : (⟨args'⟩ : Array Value).size ≤ t := by show args'.length ≤ t; omega
      have : ((⟨args'⟩ : Array Value) ++ Array.replicate (nt - (⟨args'⟩ : Array Value).size) undef).getD t undef = undef := by
        rw [Array.getD_eq_getD_getElem?, Array.getElem?_append_right hs, Array.getElem?_replicate]
        split <;> rfl
      rw [this]
      exact VR.undef

theorem putArgs_ok {ρ : Rho} {sz : Nat} {k : T Value → R} {v : Value} {hp' : Hp} : ∀ (ps : List Tmp) (args : List Value) (tm : T Value), putArgs sz ps args tm k = .ok v hp' →
    ps.length = args.length ∧ ∃ tm1, k tm1 = .ok v hp' ∧ ∀ (args' : List Value) (tmps : Array Value), LR ρ args args' → tmR ρ tm sz tmps →
      tmR ρ tm1 sz ((ps.zip args').foldl (fun (tmps : Array Value) (x : Tmp × Value) => tmps.setIfInBounds x.1 x.2) tmps) := by
  intro ps
  induction ps with
  | nil =>
    intro args tm h
    cases args with
    | nil => exact ⟨rfl, tm, h, fun args' tmps hl ht => by cases hl; exact ht⟩
    | cons x l => cases h
  | cons t ts ih =>
    intro args tm h
    cases args with
    | nil => cases h
    | cons x l =>
      have h' : pick (lt t sz) (T.put tm t (some x) fun tm => putArgs sz ts l tm k) (putArgs sz ts l tm k) = .ok v hp' := h
      rw [T.put_eq] at h'
      cases hl : lt t sz with
      | true =>
        rw [hl, pick_true] at h'
        obtain ⟨g1, tm1, g2, g3⟩ := ih _ _ h'
        refine ⟨by simp [g1], tm1, g2, fun args' tmps hla ht => ?_⟩
        cases hla with
        | cons _ x' _ l' hx hl' =>
          refine g3 l' _ hl' ⟨by simp [ht.1], fun u => ?_⟩
          have hlt : t < tmps.size := by rw [ht.1]; simpa using hl
          show VR ρ (onSome ((tm.set t (some x)).get u) undef fun v => v) _
          rw [T.get_set]
          by_cases e : u = t
          · subst e
            rw [if_pos rfl]
            have : (tmps.setIfInBounds u x').getD u undef = x' := by simp [Array.getD, hlt]
            show VR ρ x ((tmps.setIfInBounds u x').getD u undef)
            rw [this]; exact hx
          · rw [if_neg e]
            have : (tmps.setIfInBounds t x').getD u undef = tmps.getD u undef := by
              simp only [Array.getD_eq_getD_getElem?, Array.getElem?_setIfInBounds]
              rw [if_neg (fun h => e h.symm)]
            show VR ρ _ ((tmps.setIfInBounds t x').getD u undef)
            rw [this]; exact ht.2 u
      | false =>
        rw [hl, pick_false] at h'
        obtain ⟨g1, tm1, g2, g3⟩ := ih _ _ h'
        refine ⟨by simp [g1], tm1, g2, fun args' tmps hla ht => ?_⟩
        cases hla with
        | cons _ x' _ l' hx hl' =>
          have hge : ¬ t < tmps.size := by
            rw [ht.1]; intro hlt
            have : lt t sz = true := by simpa using hlt
            rw [hl] at this; cases this
          have : tmps.setIfInBounds t x' = tmps := by rw [Array.setIfInBounds, dif_neg hge]
          show tmR ρ tm1 sz ((ts.zip l').foldl _ (tmps.setIfInBounds t x'))
          rw [this]
          exact g3 l' _ hl' ht

theorem come_ok {run : Run} (hrun : RunOk P G run) {hp : Hp} {ρ : Rho} {w w1 : World} {fr fr1 : Frame} {cs : List Frame} {cr : CR} {s : Sem Next} {v : Value} {hp' : Hp}
    (c : CtxA P G hp ρ w1) (hcr : CRel P G hp ρ w1 cr s) (D : Doer P fr cs w fr1 w1 s) (h : come P run hp cr = .ok v hp') :
    ∃ v' ρ' w', VR ρ' v v' ∧ Post P G hp hp' ρ ρ' w1 w' ∧ Steps P (lone fr cs w) (lone (fr1.finish v') cs w') := by
  cases cr with
  | no => cases h
  | val u q =>
    obtain ⟨e, nx, v', ρ', w', g1, g2, g3, g4⟩ := hcr
    subst e
    cases h
    exact ⟨v', ρ', w', g3, g4, .one (D.val nx v' w' g1 g2)⟩
  | enter f args =>
    obtain ⟨args', g1, g2⟩ := hcr
    have h' : Body.rec (motive := fun _ => R) .no (enterB run f args hp) (runBody P f) = .ok v hp' := h
    cases hb : runBody P f with
    | none => rw [hb] at h'; cases h'
    | some body nt rs =>
      rw [hb] at h'
      unfold runBody at hb
      split at hb
      · rename_i fn hf
        split at hb
        · rename_i cc hbd
          rw [fNat_eq] at hb
          cases hb
          have h2 : enterB run f args hp body fn.ntmps fn.results.toList = .ok v hp' := h'
          unfold enterB at h2
          rw [fNat_eq, T.putList_eq] at h2
          let b0 : Frame := { fn := f, tmps := #[], todo := [], defers := [], mode := .run, kind := .normal }
          let a0 : Act := ⟨(⟨args'⟩ : Array Value) ++ Array.replicate (fn.ntmps - (⟨args'⟩ : Array Value).size) undef, []⟩
          have hfs : FS P ρ ⟨f, pick (Nat.ble args.length fn.ntmps) fn.ntmps args.length, fn.results.toList, none⟩ [] (T.setList args .leaf 0) b0 a0 :=
            ⟨rfl, rfl, rfl, fun l hl => (by cases hl), args_tmR g2 fn.ntmps, rfl, fun d hd => (by cases hd), fun _ => ⟨fn, hf, rfl⟩⟩
          obtain ⟨v', ρ', w', k1, k2, k3⟩ := hrun _ _ _ _ _ _ _ h2 ρ w1 b0 a0 [.code body] (fr1 :: cs) c hfs (.cons _ _ _ _ (.code body) .nil) (fun _ e => by cases e)
          refine ⟨v', ρ', w', k1, k2, .head (D.enter f ⟨args'⟩ w1 g1) ?_⟩
          have he : Frame.enter P f ⟨args'⟩ .normal = b0.atR a0 [.code body] := by
            unfold Frame.enter
            simp only [hf, Option.map_some, Option.getD_some, Option.bind_some, hbd]
            rfl
          rw [he]
          obtain ⟨fr2, j1, _, j2⟩ := k3
          exact j1.trans (.one (step_leave_returned j2))
        · cases hb
      · cases hb
  | yield l args =>
    obtain ⟨hok, args', hl, hy⟩ := hcr
    have h' : yieldB run hp l args = .ok v hp' := h
    unfold yieldB at h'
    split at h'
    · rename_i st pend fn tm sz ps as bd d hv
      obtain ⟨_, hlt, hsat⟩ := c.sat.vis _ _ hv
      obtain ⟨_, tmps, params, hheap, hps, htm⟩ := hsat
      obtain ⟨g1, tm1, g2, g3⟩ := putArgs_ok (ρ := ρ) _ _ _ h'
      have hsz : (⟨args'⟩ : Array Value).size = params.size := by
        show args'.length = params.size
        rw [← hl.length, ← g1, ← hps, Array.length_toList]
      have hrunY := run_yield (P := P) (args := ⟨args'⟩) hheap hsz
      rw [← hy] at hrunY
      have htm' := g3 args' tmps hl htm
      have hfold : ((params.zip ⟨args'⟩).foldl (fun (tmps : Array Value) (x : Tmp × Value) => tmps.setIfInBounds x.1 x.2) tmps) = ((ps.zip args').foldl (fun (tmps : Array Value) (x : Tmp × Value) => tmps.setIfInBounds x.1 x.2) tmps) := by
        rw [← Array.foldl_toList, Array.toList_zip, hps]
      rw [← hfold] at htm'
      let b0 : Frame := { fn := fn, tmps := #[], todo := [], defers := [], mode := .run, kind := .normal, roundOf := some (ρ.blk l) }
      let a0 : Act := ⟨(params.zip ⟨args'⟩).foldl (fun (tmps : Array Value) (x : Tmp × Value) => tmps.setIfInBounds x.1 x.2) tmps, []⟩
      have hfs : FS P ρ ⟨fn, sz, [], some l⟩ [] tm1 b0 a0 :=
        ⟨rfl, rfl, rfl, fun l' hl' => (by cases hl'; exact hok), htm', rfl, fun d hd => (by cases hd), fun e => (by cases e)⟩
      obtain ⟨v', ρ', w', k1, k2, k3⟩ := hrun _ _ _ _ _ _ _ g2 ρ w1 b0 a0 [.code as, .beginRound, .code bd] (fr1 :: cs) c hfs
        (.cons _ _ _ _ (.code as) (.cons _ _ _ _ .beginRound (.cons _ _ _ _ (.code bd) .nil))) (fun _ e => by cases e)
      obtain ⟨c', rest, e, j⟩ := k3
      cases e
      exact ⟨v', ρ', w', k1, k2, .head (D.round _ _ _ _ _ _ hrunY) j⟩
    · cases h'
end Go.Proofs.YtjdkfdhfodmbeaaDoor.Ax
