/- An executor of closed runs: drawn regions (6): the executor's way through one. -/
import Derived.Test.YtjdkfdhfodmbeaaDoorAxZa
namespace Go.Proofs.YtjdkfdhfodmbeaaDoor.Ax
open Go
variable {P : Program} {G : Nat}

def addIvsL (j : Nat) : List Nat → Ivs → Ivs
  | [], l => l
  | n :: ns, l => addIvsL j ns ((j, n, n + 1) :: l)
theorem addIvs_eq {β : Type} (j : Nat) : ∀ (ns : List Nat) (l : Ivs) (k : Ivs → β), addIvs j ns l k = k (addIvsL j ns l)
  | [], _, _ => rfl
  | n :: ns, l, k => addIvs_eq j ns ((j, n, n + 1) :: l) k
def addIvL (j a b : Nat) (l : Ivs) : Ivs := if a = b then l else (j, a, b) :: l
theorem addIv_eq {β : Type} (j a b : Nat) (l : Ivs) (k : Ivs → β) : addIv j a b l k = k (addIvL j a b l) := by
  unfold addIv addIvL
  by_cases e : a = b
  · subst e; rw [if_pos rfl, Nat.beq_refl]; rfl
  · rw [if_neg e]
    cases h : Nat.beq a b with
    | true => exact absurd (Nat.eq_of_beq_eq_true h) e
    | false => rfl
noncomputable def mergeL (lim : Nat) : List Nat → List Nat → List Nat
  | [], l => l
  | n :: ns, l => mergeL lim ns (addL lim n l)
theorem mergeW_eq {β : Type} (lim : Nat) : ∀ (ns l : List Nat) (k : List Nat → β), mergeW lim ns l k = k (mergeL lim ns l)
  | [], _, _ => rfl
  | n :: ns, l, k => by
    have : mergeW lim (n :: ns) l k = addW lim n l fun l => mergeW lim ns l k := rfl
    rw [this, addW_eq]
    exact mergeW_eq lim ns _ k

theorem mem_mergeL {lim m : Nat} : ∀ (ns l : List Nat), m ∈ mergeL lim ns l ↔ m ∈ l ∨ (m ∈ ns ∧ m < lim)
  | [], l => by simp [mergeL]
  | n :: ns, l => by
    unfold mergeL
    rw [mem_mergeL ns, mem_addL, List.mem_cons]
    constructor
    · rintro ((h | ⟨h1, h2⟩) | ⟨h1, h2⟩)
      · exact .inl h
      · exact .inr ⟨.inl h1, h1 ▸ h2⟩
      · exact .inr ⟨.inr h1, h2⟩
    · rintro (h | ⟨h1 | h1, h2⟩)
      · exact .inl (.inl h)
      · exact .inl (.inr ⟨h1, h1 ▸ h2⟩)
      · exact .inr ⟨h1, h2⟩

/-- The executor's way through the steps of a region. -/
inductive Chain (one : T Value → Hp → Bx → R) (sz : Nat) : List Step → Ivs → Svs → T Value → Hp → T Value → Hp → Prop
  | nil (ivs : Ivs) (sv : Svs) (tm : T Value) (hp : Hp) : Chain one sz [] ivs sv tm hp tm hp
  | skip (j m : Nat) (w : WBx) (b : Bx) (d : Dst) (l : List Step) (ivs : Ivs) (sv : Svs) (tm : T Value) (hp : Hp) (tm1 tm2 : T Value) (hp2 : Hp) :
      (∃ f, w = .ask f ∧ ∀ x y, f tm x y = y) → (∀ K, d tm sz undef K = K tm1) → Chain one sz l ivs sv tm1 hp tm2 hp2 → Chain one sz (.mk j m w b (.mk d) :: l) ivs sv tm hp tm2 hp2
  | go (j m : Nat) (w : WBx) (b : Bx) (d : Dst) (l : List Step) (ivs : Ivs) (sv : Svs) (tm : T Value) (hp : Hp) (v : Value) (q : Hp) (tm1 tm2 : T Value) (hp2 : Hp) :
      (w = .yes ∨ ∃ f, w = .ask f ∧ ∀ x y, f tm x y = x) → one tm ⟨hp.h, hp.next, hideOf m ivs hp.hid, [], hp.next⟩ b = .ok v q → (q.wr = [] ∨ unseen m q.wr sv = true) → hp.next ≤ q.next →
      (∀ K, d tm sz v K = K tm1) →
      Chain one sz l (addIvsL j q.wr (addIvL j hp.next q.next ivs)) ((j, hp.next, hideOf m ivs hp.hid) :: sv) tm1 ⟨q.h, q.next, hp.hid, mergeL hp.lim q.wr hp.wr, hp.lim⟩ tm2 hp2 →
      Chain one sz (.mk j m w b (.mk d) :: l) ivs sv tm hp tm2 hp2

/-- Steps whose guards and targets are as 'wantBx' and 'dstBx' make them. -/
def StepFine (sz : Nat) : Step → Prop
  | .mk _ _ w _ (.mk d) => (∀ f, w = .ask f → ∀ tm, (∀ x y, f tm x y = x) ∨ (∀ x y, f tm x y = y)) ∧ ∀ tm v, ∃ tm1, ∀ K, d tm sz v K = K tm1

theorem xdraw_chain {one : T Value → Hp → Bx → R} {sz : Nat} {K : T Value → Hp → R} {v : Value} {hp' : Hp} : ∀ (l : List Step) (ivs : Ivs) (sv : Svs) (tm : T Value) (hp : Hp), (∀ x ∈ l, StepFine sz x) →
    xdraw one sz l ivs sv tm hp K = .ok v hp' → ∃ tm1 hp1, Chain one sz l ivs sv tm hp tm1 hp1 ∧ K tm1 hp1 = .ok v hp'
  | [], ivs, sv, tm, hp, _, h => ⟨tm, hp, .nil .., h⟩
  | .mk j m w b (.mk d) :: l, ivs, sv, tm, hp, hfine, h => by
    obtain ⟨hask, hdst⟩ := hfine _ (.head _)
    have ih := fun ivs sv tm hp => xdraw_chain (one := one) (K := K) (v := v) (hp' := hp') l ivs sv tm hp (fun x hx => hfine x (.tail _ hx))
    -- the operation is done
    have done : (w = .yes ∨ ∃ f, w = .ask f ∧ ∀ x y, f tm x y = x) → drawGo one (xdraw one sz l) sz j m d b ivs sv tm hp K = .ok v hp' →
        ∃ tm1 hp1, Chain one sz (.mk j m w b (.mk d) :: l) ivs sv tm hp tm1 hp1 ∧ K tm1 hp1 = .ok v hp' := by
      intro hw h
      obtain ⟨h0, next, hid, wr, lim⟩ := hp
      replace h : fPairs (hideOf m ivs hid) (fun hd => drawAns (xdraw one sz l) sz j m d ivs sv tm hd next hid wr lim K (one tm ⟨h0, next, hd, [], next⟩ b)) = .ok v hp' := h
      rw [fPairs_eq] at h
      unfold drawAns at h
      obtain ⟨u, q, g0, h⟩ := onR_ok h
      obtain ⟨qh, qn, qhid, qwr, qlim⟩ := q
      replace h : drawn (xdraw one sz l) sz j m d ivs sv tm (hideOf m ivs hid) next hid wr lim K u qh qn qwr = .ok v hp' := h
      unfold drawn at h
      obtain ⟨e1, h⟩ := pick_ok h
      obtain ⟨e2, h⟩ := pick_ok h
      obtain ⟨tm1, e3⟩ := hdst tm u
      rw [e3, addIv_eq, addIvs_eq, mergeW_eq] at h
      obtain ⟨tm2, hp2, k1, k2⟩ := ih _ _ _ _ h
      refine ⟨tm2, hp2, .go j m w b d l ivs sv tm ⟨h0, next, hid, wr, lim⟩ u ⟨qh, qn, qhid, qwr, qlim⟩ tm1 tm2 hp2 hw g0 ?_ (Nat.le_of_ble_eq_true e2) e3 k1, k2⟩
      cases hq : isNone qwr with
      | true =>
        left
        cases qwr with
        | nil => rfl
        | cons x l => cases hq
      | false => rw [hq] at e1; exact .inr e1
    replace h : drawStep one sz (xdraw one sz l) j m w b d ivs sv tm hp K = .ok v hp' := h
    unfold drawStep at h
    cases w with
    | bad => cases h
    | yes => exact done (.inl rfl) h
    | ask f =>
      replace h : f tm (drawGo one (xdraw one sz l) sz j m d b ivs sv tm hp K) (d tm sz undef fun tm => xdraw one sz l ivs sv tm hp K) = .ok v hp' := h
      rcases hask f rfl tm with hx | hx
      · rw [hx] at h; exact done (.inr ⟨f, rfl, hx⟩) h
      · rw [hx] at h
        obtain ⟨tm1, e3⟩ := hdst tm undef
        rw [e3] at h
        obtain ⟨tm2, hp2, k1, k2⟩ := ih _ _ _ _ h
        exact ⟨tm2, hp2, .skip j m _ b d l ivs sv tm hp tm1 tm2 hp2 ⟨f, rfl, hx⟩ e3 k1, k2⟩

theorem step_fine (P : Program) (G : Nat) (all : List Oper) (ms : T Nat) (sz : Nat) (x : Nat × Oper) : StepFine sz (stepOf P G all ms x) := by
  obtain ⟨j, o⟩ := x
  cases hd : dstBx o.dst with
  | mk d =>
    have e : stepOf P G all ms (j, o) = .mk j (natAt ms j) (wantBx all o.guard) (bxOf P G o) (.mk d) := by unfold stepOf; rw [hd]
    rw [e]
    refine ⟨fun f hf tm => ?_, fun tm v => ?_⟩
    · unfold wantBx at hf
      split at hf
      · cases hf
      · rename_i j' want _
        split at hf
        · rename_i t ht
          obtain ⟨g, hg, _⟩ := T.getPath_spec (α := Value) (t + 1) t (Nat.lt_succ_self t)
          rw [hg] at hf
          replace hf : fBool want (fun want => WBx.ask fun tm a b => askB want (g tm) a b) = .ask f := hf
          rw [fBool_eq] at hf
          cases hf
          show (∀ x y, askB want (g tm) x y = x) ∨ (∀ x y, askB want (g tm) x y = y)
          cases g tm with
          | none => exact .inr fun _ _ => rfl
          | some u =>
            cases u <;> first
              | exact .inr fun _ _ => rfl
              | (rename_i t'; cases t' <;> cases want <;> first | exact .inl fun _ _ => rfl | exact .inr fun _ _ => rfl)
        · cases hf
    · cases ho : o.dst with
      | none => rw [ho] at hd; cases hd; exact ⟨tm, fun _ => rfl⟩
      | some t =>
        rw [ho] at hd
        obtain ⟨s, e, hs⟩ := T.setPath_spec (α := Value) (β := R) (t + 1) t (Nat.lt_succ_self t)
        have e2 : dstBx (some t) = T.SBx.rec (motive := fun _ => DBx) (fun s => .mk fun tm sz v k => pick (lt t sz) (s tm v k) (k tm)) (T.setPath (β := R) (T.pathF (t + 1) t)) := rfl
        rw [e2, e] at hd
        cases hd
        cases hl : lt t sz with
        | true => obtain ⟨t', h1, _⟩ := hs tm v; exact ⟨t', fun K => by show pick (lt t sz) (s tm v K) (K tm) = _; rw [hl]; exact h1 K⟩
        | false => exact ⟨tm, fun K => by show pick (lt t sz) (s tm v K) (K tm) = _; rw [hl]; rfl⟩
end Go.Proofs.YtjdkfdhfodmbeaaDoor.Ax
