/- An executor of closed runs: drawn regions (8): the executor's way, place by place. -/
import Derived.Test.YtjdkfdhfodmbeaaDoorAxZc
namespace Go.Proofs.YtjdkfdhfodmbeaaDoor.Ax
open Go
variable {P : Program} {G : Nat}

/-- What the executor has at a place of its order. -/
structure Ent where
  tm : T Value
  hp : Hp
  ivs : Ivs
  sv : Svs
  dn : Bool
  v : Value
  q : Hp

/-- From one place to the next. -/
def Link (one : T Value → Hp → Bx → R) (sz : Nat) : Step → Ent → Ent → Prop
  | .mk j m w b (.mk d), e, e' =>
    (e.dn = false ∧ (∃ f, w = .ask f ∧ ∀ x y, f e.tm x y = y) ∧ (∀ K, d e.tm sz undef K = K e'.tm) ∧ e'.hp = e.hp ∧ e'.ivs = e.ivs ∧ e'.sv = e.sv) ∨
    (e.dn = true ∧ (w = .yes ∨ ∃ f, w = .ask f ∧ ∀ x y, f e.tm x y = x) ∧ one e.tm ⟨e.hp.h, e.hp.next, hideOf m e.ivs e.hp.hid, [], e.hp.next⟩ b = .ok e.v e.q ∧
      (e.q.wr = [] ∨ unseen m e.q.wr e.sv = true) ∧ e.hp.next ≤ e.q.next ∧ (∀ K, d e.tm sz e.v K = K e'.tm) ∧
      e'.ivs = addIvsL j e.q.wr (addIvL j e.hp.next e.q.next e.ivs) ∧ e'.sv = (j, e.hp.next, hideOf m e.ivs e.hp.hid) :: e.sv ∧
      e'.hp = ⟨e.q.h, e.q.next, e.hp.hid, mergeL e.hp.lim e.q.wr e.hp.wr, e.hp.lim⟩)

def consX (e : Ent) (X : Nat → Ent) : Nat → Ent
  | 0 => e
  | p + 1 => X p

theorem chain_ents {one : T Value → Hp → Bx → R} {sz : Nat} {l : List Step} {ivs : Ivs} {sv : Svs} {tm : T Value} {hp : Hp} {tm2 : T Value} {hp2 : Hp} (c : Chain one sz l ivs sv tm hp tm2 hp2) :
    ∃ X : Nat → Ent, (X 0).tm = tm ∧ (X 0).hp = hp ∧ (X 0).ivs = ivs ∧ (X 0).sv = sv ∧ (X l.length).tm = tm2 ∧ (X l.length).hp = hp2 ∧ ∀ p x, l[p]? = some x → Link one sz x (X p) (X (p + 1)) := by
  induction c with
  | nil ivs sv tm hp => exact ⟨fun _ => ⟨tm, hp, ivs, sv, false, undef, hp⟩, rfl, rfl, rfl, rfl, rfl, rfl, fun p x h => by simp at h⟩
  | skip j m w b d l ivs sv tm hp tm1 tm2 hp2 h1 h2 _ ih =>
    obtain ⟨X, a1, a2, a3, a4, a5, a6, a7⟩ := ih
    refine ⟨consX ⟨tm, hp, ivs, sv, false, undef, hp⟩ X, rfl, rfl, rfl, rfl, a5, a6, fun p x h => ?_⟩
    cases p with
    | zero =>
      cases h
      refine .inl ⟨rfl, h1, fun K => ?_, a2, a3, a4⟩
      show d tm sz undef K = K (X 0).tm
      rw [a1]; exact h2 K
    | succ p => exact a7 p x (by simpa using h)
  | go j m w b d l ivs sv tm hp v q tm1 tm2 hp2 h1 h2 h3 h4 h5 _ ih =>
    obtain ⟨X, a1, a2, a3, a4, a5, a6, a7⟩ := ih
    refine ⟨consX ⟨tm, hp, ivs, sv, true, v, q⟩ X, rfl, rfl, rfl, rfl, a5, a6, fun p x h => ?_⟩
    cases p with
    | zero =>
      cases h
      refine .inr ⟨rfl, h1, h2, h3, h4, fun K => ?_, a3, a4, a2⟩
      show d tm sz v K = K (X 0).tm
      rw [a1]; exact h5 K
    | succ p => exact a7 p x (by simpa using h)

/-! What is hidden. -/
theorem hidden_cons (a b : Nat) (l : List (Nat × Nat)) (n : Nat) : hidden ((a, b) :: l) n = true ↔ (a ≤ n ∧ n < b) ∨ hidden l n = true := by
  show pick (andB (Nat.ble a n) (lt n b)) true (hidden l n) = true ↔ _
  rw [andB_eq]
  cases h : (Nat.ble a n && lt n b) with
  | true =>
    rw [Bool.and_eq_true, Nat.ble_eq, lt_eq] at h
    simp [h]
  | false =>
    have : ¬ (a ≤ n ∧ n < b) := by
      intro h'
      have : (Nat.ble a n && lt n b) = true := by rw [Bool.and_eq_true, Nat.ble_eq, lt_eq]; exact h'
      rw [h] at this; cases this
    simp [this]

theorem joinIv_in {a b : Nat} (hab : a ≤ b) {l : List (Nat × Nat)} {n : Nat} (h : (a ≤ n ∧ n < b) ∨ hidden l n = true) : hidden (joinIv a b l) n = true := by
  unfold joinIv
  cases l with
  | nil =>
    rw [hidden_cons]
    rcases h with h | h
    · exact .inl h
    · cases h
  | cons x l =>
    obtain ⟨c, d⟩ := x
    show hidden (cond (Nat.beq d a) (cond (Nat.ble c d) ((c, b) :: l) ((a, b) :: (c, d) :: l)) ((a, b) :: (c, d) :: l)) n = true
    have hdef : hidden ((a, b) :: (c, d) :: l) n = true := by rw [hidden_cons]; exact h
    cases h1 : Nat.beq d a with
    | false => exact hdef
    | true =>
      cases h2 : Nat.ble c d with
      | false => exact hdef
      | true =>
        have e1 := Nat.eq_of_beq_eq_true h1
        have e2 := Nat.le_of_ble_eq_true h2
        rw [cond_true, cond_true, hidden_cons]
        rw [hidden_cons] at h
        rcases h with h | h | h
        · exact .inl (by omega)
        · exact .inl (by omega)
        · exact .inr h

theorem hideOf_hid {m n : Nat} {hid : List (Nat × Nat)} (h : hidden hid n = true) : ∀ ivs : Ivs, (∀ i a b, (i, a, b) ∈ ivs → a ≤ b) → hidden (hideOf m ivs hid) n = true
  | [], _ => h
  | (i, a, b) :: l, hw => by
    have ih := hideOf_hid (m := m) h l fun i a b hm => hw i a b (.tail _ hm)
    show hidden (cond (bit m i) (hideOf m l hid) (joinIv a b (hideOf m l hid))) n = true
    cases bit m i with
    | true => exact ih
    | false => exact joinIv_in (hw i a b (.head _)) (.inr ih)

theorem hideOf_iv {m n : Nat} {hid : List (Nat × Nat)} {i a b : Nat} (hb : bit m i = false) (hn : a ≤ n ∧ n < b) : ∀ ivs : Ivs, (∀ i a b, (i, a, b) ∈ ivs → a ≤ b) → (i, a, b) ∈ ivs → hidden (hideOf m ivs hid) n = true
  | (i', a', b') :: l, hw, hm => by
    show hidden (cond (bit m i') (hideOf m l hid) (joinIv a' b' (hideOf m l hid))) n = true
    cases hm with
    | head => rw [hb]; exact joinIv_in (hw i a b (.head _)) (.inl hn)
    | tail _ hm =>
      have ih := hideOf_iv (hid := hid) hb hn l (fun i a b hm => hw i a b (.tail _ hm)) hm
      cases bit m i' with
      | true => exact ih
      | false => exact joinIv_in (hw i' a' b' (.head _)) (.inr ih)

theorem mem_addIvL {j a b : Nat} {l : Ivs} {x : Nat × Nat × Nat} : x ∈ addIvL j a b l ↔ x ∈ l ∨ (a ≠ b ∧ x = (j, a, b)) := by
  unfold addIvL
  by_cases e : a = b
  · rw [if_pos e]; simp [e]
  · rw [if_neg e, List.mem_cons]
    constructor
    · rintro (h | h)
      · exact .inr ⟨e, h⟩
      · exact .inl h
    · rintro (h | ⟨_, h⟩)
      · exact .inr h
      · exact .inl h
theorem mem_addIvsL {j : Nat} {x : Nat × Nat × Nat} : ∀ (ns : List Nat) (l : Ivs), x ∈ addIvsL j ns l ↔ x ∈ l ∨ ∃ n ∈ ns, x = (j, n, n + 1)
  | [], l => by simp [addIvsL]
  | n :: ns, l => by
    unfold addIvsL
    rw [mem_addIvsL ns, List.mem_cons]
    constructor
    · rintro ((h | h) | ⟨k, h1, h2⟩)
      · exact .inr ⟨n, .head _, h⟩
      · exact .inl h
      · exact .inr ⟨k, .tail _ h1, h2⟩
    · rintro (h | ⟨k, h1, h2⟩)
      · exact .inl (.inr h)
      · cases h1 with
        | head => exact .inl (.inl h2)
        | tail _ h1 => exact .inr ⟨k, h1, h2⟩

theorem unseen1_in {c : Nat} {h : List (Nat × Nat)} : ∀ {ns : List Nat}, unseen1 c h ns = true → ∀ n ∈ ns, c ≤ n ∨ hidden h n = true
  | x :: ns, hu, n, hn => by
    unfold unseen1 at hu
    cases h1 : Nat.ble c x with
    | true =>
      rw [h1, cond_true] at hu
      cases hn with
      | head => exact .inl (Nat.le_of_ble_eq_true h1)
      | tail _ hn => exact unseen1_in hu n hn
    | false =>
      rw [h1, cond_false] at hu
      cases h2 : hidden h x with
      | false => rw [h2] at hu; cases hu
      | true =>
        rw [h2, cond_true] at hu
        cases hn with
        | head => exact .inr h2
        | tail _ hn => exact unseen1_in hu n hn

theorem unseen_in {m : Nat} {w : List Nat} {j c : Nat} {h : List (Nat × Nat)} (hb : bit m j = false) : ∀ {sv : Svs}, unseen m w sv = true → (j, c, h) ∈ sv → ∀ n ∈ w, c ≤ n ∨ hidden h n = true
  | (j', c', h') :: l, hu, hm => by
    unfold unseen at hu
    cases hm with
    | head =>
      rw [hb, cond_false] at hu
      cases h1 : unseen1 c h w with
      | false => rw [h1] at hu; cases hu
      | true => exact unseen1_in h1
    | tail _ hm =>
      have : unseen m w l = true := by
        cases h1 : bit m j' with
        | true => rw [h1, cond_true] at hu; exact hu
        | false =>
          rw [h1, cond_false] at hu
          cases h2 : unseen1 c' h' w with
          | false => rw [h2] at hu; cases hu
          | true => rw [h2, cond_true] at hu; exact hu
      exact unseen_in hb this hm

/-! Temporaries. -/
theorem dst_tm {dst : Option Tmp} {f : Dst} (hd : dstBx dst = .mk f) {tm tm1 : T Value} {sz : Nat} {v : Value} (h : ∀ K : T Value → R, f tm sz v K = K tm1) (t : Nat) :
    evA tm1 (.tmp t) = if dst = some t ∧ t < sz then v else evA tm (.tmp t) := by
  let hp0 : Hp := ⟨.leaf, 0, [], [], 0⟩
  have inj : ∀ {tm2 : T Value}, (∀ K : T Value → R, f tm sz v K = K tm2) → evA tm1 (.tmp t) = evA tm2 (.tmp t) := by
    intro tm2 h2
    have := (h fun x => .ok (evA x (.tmp t)) hp0).symm.trans (h2 fun x => .ok (evA x (.tmp t)) hp0)
    exact (R.ok.injEq .. ▸ this).1
  cases dst with
  | none => cases hd; rw [inj (tm2 := tm) fun K => rfl]; simp
  | some d =>
    obtain ⟨s, e, hs⟩ := T.setPath_spec (α := Value) (β := R) (d + 1) d (Nat.lt_succ_self d)
    have e2 : dstBx (some d) = T.SBx.rec (motive := fun _ => DBx) (fun s => .mk fun tm sz v k => pick (lt d sz) (s tm v k) (k tm)) (T.setPath (β := R) (T.pathF (d + 1) d)) := rfl
    rw [e2, e] at hd
    cases hd
    obtain ⟨t', g1, g2⟩ := hs tm v
    cases hl : lt d sz with
    | true =>
      have hlt : d < sz := by simpa using hl
      rw [inj (tm2 := t') fun K => by show pick (lt d sz) (s tm v K) (K tm) = _; rw [hl]; exact g1 K]
      show onSome (t'.get t) undef (fun v => v) = _
      rw [g2]
      by_cases e3 : t = d
      · subst e3; rw [if_pos rfl, if_pos ⟨rfl, hlt⟩]; rfl
      · rw [if_neg e3, if_neg (fun h => e3 (Option.some.inj h.1).symm)]; rfl
    | false =>
      have hlt : ¬ d < sz := fun h => by
        have : lt d sz = true := by simpa using h
        rw [hl] at this; cases this
      rw [inj (tm2 := tm) fun K => by show pick (lt d sz) (s tm v K) (K tm) = _; rw [hl]; rfl]
      rw [if_neg (fun h => hlt (by obtain ⟨h1, h2⟩ := h; cases h1; exact h2))]

theorem want_ask' {all : Array Oper} {o : Oper} {f : T Value → R → R → R} (h : wantBx all.toList o.guard = .ask f) {ρ : Rho} {tm : T Value} {tmps : Array Value}
    (ht : ∀ j want d, o.guard = some (j, want) → (all[j]?).bind (·.dst) = some d → VR ρ (evA tm (.tmp d)) (tmps.getD d undef)) :
    (Region.wanted o (yielded all tmps) = true ∧ ∀ a b, f tm a b = a) ∨ (Region.wanted o (yielded all tmps) = false ∧ ∀ a b, f tm a b = b) := by
  unfold wantBx at h
  unfold Region.wanted
  cases hg : o.guard with
  | none => rw [hg] at h; cases h
  | some x =>
    obtain ⟨j, want⟩ := x
    rw [hg] at h
    simp only at h ⊢
    split at h
    · rename_i d hd
      obtain ⟨g, hgp, hgs⟩ := T.getPath_spec (α := Value) (d + 1) d (Nat.lt_succ_self d)
      rw [hgp] at h
      replace h : fBool want (fun want => WBx.ask fun tm a b => askB want (g tm) a b) = .ask f := h
      rw [fBool_eq] at h
      cases h
      have hd' : (all[j]?).bind (·.dst) = some d := by rw [← hd]; simp
      have hy : yielded all tmps j = match tmps[d]? with | some (.bool b) => some b | _ => none := by
        unfold yielded
        rw [hd']
        rfl
      have hv := ht j want d hg hd'
      have hev : evA tm (.tmp d) = onSome (tm.get d) undef fun v => v := rfl
      rw [hev] at hv
      have key : (∃ b, tm.get d = some (.bool b)) ∨ (∀ a b, askB want (tm.get d) a b = b) ∧ ∀ b, onSome (tm.get d) undef (fun v => v) ≠ .bool b := by
        cases hgd : tm.get d with
        | none => exact .inr ⟨fun a b => rfl, fun b e => by cases e⟩
        | some u => cases u <;> first | exact .inl ⟨_, rfl⟩ | exact .inr ⟨fun a b => rfl, fun b e => by cases e⟩
      rcases key with ⟨t, ht1⟩ | ⟨h1, h2⟩
      · rw [ht1] at hv
        replace hv : VR ρ (.bool t) (tmps.getD d undef) := hv
        have hval : tmps[d]? = some (.bool t) := by
          have h3 : tmps.getD d undef = .bool t := by generalize tmps.getD d undef = z at hv; cases hv; rfl
          rw [Array.getD_eq_getD_getElem?] at h3
          cases hz : tmps[d]? with
          | none => rw [hz] at h3; cases h3
          | some z => rw [hz] at h3; exact congrArg some h3
        rw [hval] at hy
        rw [hy]
        have hf : ∀ a b, askB want (g tm) a b = pick (pick t want (pick want false true)) a b := fun a b => by rw [hgs, ht1]; rfl
        cases t <;> cases want <;> first
          | exact .inl ⟨rfl, hf⟩
          | exact .inr ⟨rfl, hf⟩
      · right
        refine ⟨?_, fun a b => by show askB want (g tm) a b = b; rw [hgs]; exact h1 a b⟩
        have h3 := vr_notbool hv h2
        have : yielded all tmps j = none := by
          rw [hy]
          cases hz : tmps[d]? with
          | none => rfl
          | some z =>
            have h4 : tmps.getD d undef = z := by rw [Array.getD_eq_getD_getElem?, hz]; rfl
            rw [h4] at h3
            cases z <;> first | rfl | exact absurd rfl (h3 _)
        rw [this]
        rfl
    · cases h

/-- An operation, carried out; of the temporaries only those that it names are known. -/
theorem oper_ok' {run : Run} (hrun : RunOk P G run) {tm : T Value} {hp hp' : Hp} {ρ : Rho} {w : World} {v : Value} {b : Frame} {a : Act} {cs : List Frame} {ops : Array Oper} {i : Nat} {rest : List Nat} {k : List Item} {o : Oper}
    (c : CtxA P G hp ρ w) (hf : ∀ t, Operand.tmp t ∈ o.op.operands → VR ρ (evA tm (.tmp t)) (a.tmps.getD t undef)) (ho : ops[i]? = some o) (hw : Region.wanted o (yielded ops a.tmps) = true) (h : oper P run tm hp (bxOf P G o) = .ok v hp') :
    ∃ v' ρ' w', VR ρ' v v' ∧ Post P G hp hp' ρ ρ' w w' ∧ Steps P (lone (b.atR a (.inRegion ops (i :: rest) :: k)) cs w) (lone (b.atR (a.put o.dst v') (.inRegion ops rest :: k)) cs w') := by
  have fin : ∀ u, (b.atR a (.inRegion ops (i :: rest) :: k)).finish u = b.atR (a.put o.dst u) (.inRegion ops rest :: k) := fun u => by rw [Frame.finish_atR, ho]; rfl
  have ev : ∀ x ∈ o.op.operands, okOpd G x = true → VR ρ (evA tm x) (a.eval x) := by
    intro x hx hok
    cases x with
    | tmp t => exact hf t hx
    | const v => exact pl_vr hok
    | global g =>
      have hg : g < G := by
        have : lt g G = true := hok
        simpa using this
      obtain ⟨h1, h2, h3⟩ := c.sat.glob g hg
      have := VR.ptr (ρ := ρ) g 0 h1
      rw [h2, h3] at this
      exact this
    | func f => exact .func _ _ _ _ _ rfl .nil .nil
  cases hb : bxOf P G o with
  | bad => rw [hb] at h; cases h
  | op f =>
    rw [hb] at h
    replace h : f tm hp = .ok v hp' := h
    have hd := bxOf_not_defer (P := P) (G := G) (o := o) (by rw [hb]; intro e; cases e)
    obtain ⟨h1, h2⟩ := bxOf_op hb
    have D := doer_op (P := P) (b := b) (k := k) (cs := cs) (w := w) (rest := rest) ho hw hd
    obtain ⟨nx, v', ρ', w', g1, g2, g3, g4⟩ := h2 tm hp v hp' h ρ w _ a.eval (c.ctx _) (fun x hx => ev x hx (h1 x hx)) (Nat.le_refl _)
    have := D.val nx v' w' g1 g2
    rw [fin] at this
    exact ⟨v', ρ', w', g3, g4, .one this⟩
  | call f =>
    rw [hb] at h
    replace h : come P run hp (f tm hp) = .ok v hp' := h
    have hd := bxOf_not_defer (P := P) (G := G) (o := o) (by rw [hb]; intro e; cases e)
    obtain ⟨h1, _, h2⟩ := bxOf_call hb
    have D := doer_op (P := P) (b := b) (k := k) (cs := cs) (w := w) (rest := rest) ho hw hd
    have hcr := h2 tm hp ρ w hp.next a.eval (c.ctx _) (fun x hx => ev x hx (h1 x hx)) (fun f => rfl)
    obtain ⟨v', ρ', w', g1, g2, g3⟩ := come_ok hrun c hcr D h
    rw [fin] at g3
    exact ⟨v', ρ', w', g1, g2, g3⟩
end Go.Proofs.YtjdkfdhfodmbeaaDoor.Ax
