/- An executor of closed runs: a run in segments. -/
import Derived.Test.YtjdkfdhfodmbeaaDoorAxZh
namespace Go.Proofs.YtjdkfdhfodmbeaaDoor.Ax
open Go Go.RowKit
variable {P : Program} {G : Nat}

noncomputable section
/-- Only the named objects are kept. -/
def keepT (h : T AObj) (l : List Nat) : T AObj → (T AObj → R) → R :=
  List.rec (motive := fun _ => T AObj → (T AObj → R) → R) (fun t k => k t) (fun n _ ih t k => onSome (h.get n) (ih t k) fun o => T.put t n (some o) fun t => ih t k) l
def restrict (l : List Nat) (hp : Hp) (k : Hp → R) : R := Hp.rec (motive := fun _ => R) (fun h next hid wr lim => keepT h l .leaf fun h => k ⟨h, next, hid, wr, lim⟩) hp
abbrev Enc := List Nat → List AItem → T Value → Hp → Hp
/-- The end of a segment: the state, with the objects that are kept. -/
def cutK (keep : List Nat) (enc : Enc) : Run := fun _ dfs todo tm hp => restrict keep hp fun hp => .ok undef (enc dfs todo tm hp)

/-! Parts of a function's text. -/
def child (c : Code) (x : Nat) : Code :=
  match c with
  | .seq a b => cond (Nat.beq x 0) a b
  | .cond _ a b => cond (Nat.beq x 0) a b
  | .block _ b => b
  | .loop b => b
  | .scope b => b
  | .rangeFunc _ _ a b => cond (Nat.beq x 0) a b
  | c => c
def cAt : List Nat → Code → Code
  | [], c => c
  | x :: l, c => cAt l (child c x)
def bodyOf (P : Program) (f : FuncId) : Code :=
  match runBody P f with
  | .some c _ _ => c
  | .none => .skip
end

structure Sub (hp1 hp : Hp) : Prop where
  get : ∀ n o, hp1.h.get n = some o → hp.h.get n = some o
  next : hp1.next = hp.next
  hid : hp1.hid = hp.hid
  wr : hp1.wr = hp.wr
  lim : hp1.lim = hp.lim

theorem keepT_ok (h : T AObj) : ∀ (l : List Nat) (t : T AObj), ∃ t', (∀ k, keepT h l t k = k t') ∧ ∀ n o, t'.get n = some o → t.get n = some o ∨ h.get n = some o
  | [], t => ⟨t, fun _ => rfl, fun _ _ h => .inl h⟩
  | n :: l, t => by
    cases hg : h.get n with
    | none =>
      obtain ⟨t', h1, h2⟩ := keepT_ok h l t
      refine ⟨t', fun k => ?_, h2⟩
      show onSome (h.get n) (keepT h l t k) (fun o => T.put t n (some o) fun t => keepT h l t k) = k t'
      rw [hg]; exact h1 k
    | some o =>
      obtain ⟨t', h1, h2⟩ := keepT_ok h l (t.set n (some o))
      refine ⟨t', fun k => ?_, fun m x hx => ?_⟩
      · show onSome (h.get n) (keepT h l t k) (fun o => T.put t n (some o) fun t => keepT h l t k) = k t'
        rw [hg]
        show T.put t n (some o) (fun t => keepT h l t k) = k t'
        rw [T.put_eq]; exact h1 k
      · rcases h2 m x hx with h3 | h3
        · rw [T.get_set] at h3
          by_cases e : m = n
          · rw [if_pos e] at h3; cases h3; subst e; exact .inr hg
          · rw [if_neg e] at h3; exact .inl h3
        · exact .inr h3

theorem restrict_ok (l : List Nat) (hp : Hp) : ∃ hp1, (∀ k, restrict l hp k = k hp1) ∧ Sub hp1 hp := by
  obtain ⟨h, next, hid, wr, lim⟩ := hp
  obtain ⟨t', h1, h2⟩ := keepT_ok h l .leaf
  refine ⟨⟨t', next, hid, wr, lim⟩, fun k => h1 _, fun n o hn => ?_, rfl, rfl, rfl, rfl⟩
  rcases h2 n o hn with h3 | h3
  · cases h3
  · exact h3

theorem CtxA.sub {hp hp1 : Hp} {ρ : Rho} {w : World} (s : Sub hp1 hp) (c : CtxA P G hp ρ w) : CtxA P G hp1 ρ w := by
  have hv : ∀ n o, hp1.vis n = some o → hp.vis n = some o := by
    intro n o h
    obtain ⟨h1, h2⟩ := Hp.vis_some h
    have e : hp.no n = hp1.no n := by unfold Hp.no; rw [s.hid, s.lim]
    rw [Hp.vis_eq, e, h1]
    exact s.get n o h2
  refine ⟨⟨fun n o h => c.sat.vis n o (hv n o h), fun n m o o' h h' => c.sat.inj n m o o' (hv n o h) (hv m o' h'), fun n o h => by rw [s.next]; exact c.sat.lt n o (s.get n o h), by rw [s.lim, s.next]; exact c.sat.lim, c.sat.glob⟩, fun n hn => c.fresh n (by rw [← s.next]; exact hn)⟩

/-- A segment's end: the state that was reached. -/
def CutC (P : Program) (G : Nat) (enc : Enc) : Con := fun S hp hp' ρ w v fr cs => Concl P G S hp hp' ρ w v fr cs ∨
  ∃ dfs todo tm hpA hpB ρA wA b a todo', hp' = enc dfs todo tm hpB ∧ Sub hpB hpA ∧ CtxA P G hpA ρA wA ∧ Post P G hp hpA ρ ρA w wA ∧ FS P ρA S dfs tm b a ∧ TR ρA todo todo' ∧ Steps P (lone fr cs w) (lone (b.atR a todo') cs wA)

theorem isC_cut (enc : Enc) : IsC P G (CutC P G enc) := by
  refine ⟨.inl, fun {S hp hp1 hp' ρ ρ1 w w1 v fr fr1 cs} c p hst h => ?_⟩
  rcases h with h | ⟨dfs, todo, tm, hpA, hpB, ρA, wA, b, a, todo', h1, h2, h3, h4, h5, h6, h7⟩
  · exact .inl (isC_concl.go c p hst h)
  · exact .inr ⟨dfs, todo, tm, hpA, hpB, ρA, wA, b, a, todo', h1, h2, h3, p.trans h4, h5, h6, hst.trans h7⟩

theorem runC_cut (keep : List Nat) (enc : Enc) : RunC P G (CutC P G enc) (cutK keep enc) := by
  intro S dfs todo tm hp v hp' h ρ w b a todo' cs c hf ht _
  obtain ⟨hp1, h1, h2⟩ := restrict_ok keep hp
  replace h : restrict keep hp (fun hp => .ok undef (enc dfs todo tm hp)) = .ok v hp' := h
  rw [h1] at h
  cases h
  exact .inr ⟨dfs, todo, tm, hp, hp1, ρ, w, b, a, todo', rfl, h2, c, .refl c.sat, hf, ht, .refl P _⟩

/-- Only blocks of the run's own names have changed. -/
structure Fr (lim : Nat) (ρ : Rho) (w w' : World) : Prop where
  size : w.heap.size ≤ w'.heap.size
  frame : ∀ b, b < w.heap.size → (∀ n, ρ.ok n → lim ≤ n → ρ.blk n ≠ b) → w'.heap[b]? = w.heap[b]?
  os : w'.os = w.os
  tape : w'.tape = w.tape
  output : w'.output = w.output

theorem Fr.after {hp hpA : Hp} {ρ ρA : Rho} {w wA w' : World} (_c : CtxA P G hp ρ w) (p : Post P G hp hpA ρ ρA w wA) (hwr : hpA.wr = []) (f : Fr hp.lim ρA wA w') : Fr hp.lim ρ w w' := by
  refine ⟨Nat.le_trans p.size f.size, fun b hb h => ?_, f.os.trans p.os, f.tape.trans p.tape, f.output.trans p.output⟩
  have h1 : wA.heap[b]? = w.heap[b]? := p.frame b hb fun n hn hor => by
    rcases hor with h2 | h2
    · exact h n hn h2.1
    · rw [hwr] at h2; cases h2
  rw [← h1]
  refine f.frame b (Nat.lt_of_lt_of_le hb p.size) fun n hn hl => ?_
  rcases p.new n hn with h2 | ⟨h2, h3⟩
  · rw [p.ext.blk n h2]; exact h n h2 hl
  · rcases p.fresh n h2 h3 with h4 | ⟨m, h4, h5, h6⟩
    · omega
    · rw [h6]
      rcases h5 with h5 | h5
      · exact h m h4 h5.1
      · rw [hwr] at h5; cases h5

/-- From this state a function's own frame goes on to return true. -/
def Wins (P : Program) (G : Nat) (S : St) (dfs : List Nat) (todo : List AItem) (tm : T Value) (hp : Hp) : Prop :=
  ∀ ρ w b a todo' cs, CtxA P G hp ρ w → FS P ρ S dfs tm b a → TR ρ todo todo' →
    ∃ w' fr1, Steps P (lone (b.atR a todo') cs w) (lone fr1 cs w') ∧ fr1.fn = S.fn ∧ fr1.leaving P w' (.returned (.bool true)) ∧ Fr hp.lim ρ w w'

theorem isTrue_ok {r : R} (h : isTrue r = true) : ∃ hp, r = .ok (.bool true) hp ∧ hp.wr = [] := by
  cases r with
  | no => cases h
  | ok v hp =>
    cases v <;> try (cases h; done)
    rename_i t
    cases t with
    | false => cases h
    | true =>
      refine ⟨hp, rfl, ?_⟩
      replace h : pick true (isNone hp.wr) false = true := h
      cases hw : hp.wr with
      | nil => rfl
      | cons x l => rw [hw] at h; cases h

theorem wins_end (hreg : RegOk P G) {n : Nat} {S : St} (hro : S.ro = none) {dfs : List Nat} {todo : List AItem} {tm : T Value} {hp : Hp} (h : isTrue (xrun P G n S dfs todo tm hp) = true) : Wins P G S dfs todo tm hp := by
  intro ρ w b a todo' cs c hf ht
  obtain ⟨hp', h1, h2⟩ := isTrue_ok h
  obtain ⟨v', ρ', w', k1, k2, k3⟩ := xrun_ok hreg n _ _ _ _ _ _ _ h1 ρ w b a todo' cs c hf ht (fun e => absurd hro e)
  unfold Ends at k3
  rw [hro] at k3
  obtain ⟨fr1, j1, j2, j3⟩ := k3
  cases k1
  refine ⟨w', fr1, j1, j2, j3, ?_⟩
  have f0 : Fr hp.lim ρ' w' w' := ⟨Nat.le_refl _, fun _ _ _ => rfl, rfl, rfl, rfl⟩
  exact f0.after c k2 h2

theorem wins_seg (hreg : RegOk P G) {n c : Nat} {keep : List Nat} {S : St} (hro : S.ro = none) {dfs dfs' : List Nat} {todo todo1 : List AItem} {tm tm' : T Value} {hp hp' : Hp}
    (h : ∀ enc : Enc, xseg P G (xrun P G n) c (cutK keep enc) S dfs todo tm hp = .ok undef (enc dfs' todo1 tm' hp')) (hwr : hp'.wr = []) (hw : Wins P G S dfs' todo1 tm' hp') : Wins P G S dfs todo tm hp := by
  intro ρ w b a todo' cs c0 hf ht
  classical
  let X : Hp := ⟨.leaf, 0, [], [], hp.lim + 1⟩
  let Y : Hp := ⟨.leaf, 0, [], [], hp.lim + 2⟩
  let enc : Enc := fun d t m h => if d = dfs' ∧ t = todo1 ∧ m = tm' ∧ h = hp' then X else Y
  have hX : xseg P G (xrun P G n) c (cutK keep enc) S dfs todo tm hp = .ok undef X := by
    rw [h enc]
    show R.ok undef (if _ then X else Y) = _
    rw [if_pos ⟨rfl, rfl, rfl, rfl⟩]
  rcases xseg_ok hreg (isC_cut enc) (xrun_ok hreg n) (runC_cut keep enc) c S dfs todo tm hp _ _ hX ρ w b a todo' cs c0 hf ht (fun e => absurd hro e) with ⟨_, _, _, _, p, _⟩ | ⟨d, t, m, hpA, hpB, ρA, wA, b1, a1, t1, e, hsub, cA, p, fA, tA, hst⟩
  · have : hp.lim + 1 = hp.lim := p.limE
    omega
  · by_cases hc : d = dfs' ∧ t = todo1 ∧ m = tm' ∧ hpB = hp'
    · obtain ⟨rfl, rfl, rfl, rfl⟩ := hc
      obtain ⟨w', fr1, s1, e1, e2, f⟩ := hw ρA wA b1 a1 t1 cs (cA.sub hsub) fA tA
      refine ⟨w', fr1, hst.trans s1, e1, e2, ?_⟩
      rw [hsub.lim, p.limE] at f
      exact f.after c0 p (by rw [← hsub.wr]; exact hwr)
    · have e' : X = if d = dfs' ∧ t = todo1 ∧ m = tm' ∧ hpB = hp' then X else Y := e
      rw [if_neg hc] at e'
      have : hp.lim + 1 = hp.lim + 2 := congrArg Hp.lim e'
      omega

/-- **A function whose own frame goes on to return true returns true.** -/
theorem wins_calls {f : FuncId} {hp : Hp} (hlim : hp.lim = hp.next) {body : Code} {nt : Nat} {rs : List ResultVar} (hb : runBody P f = .some body nt rs) (h : Wins P G ⟨f, nt, rs, none⟩ [] [.code body] .leaf hp) {ρ : Rho} {w : World} (c : CtxA P G hp ρ w) :
    Calls P f #[] w fun e w' => e = .returned (.bool true) ∧ Below w.heap.size w w' := by
  intro cs
  unfold runBody at hb
  split at hb
  · rename_i fn hf
    split at hb
    · rename_i cc hbd
      rw [fNat_eq] at hb
      cases hb
      let b0 : Frame := { fn := f, tmps := #[], todo := [], defers := [], mode := .run, kind := .normal }
      let a0 : Act := ⟨#[] ++ Array.replicate (fn.ntmps - 0) undef, []⟩
      have htm : tmR ρ .leaf fn.ntmps a0.tmps := args_tmR (ρ := ρ) (args := []) (args' := []) .nil fn.ntmps
      have hfs : FS P ρ ⟨f, fn.ntmps, fn.results.toList, none⟩ [] .leaf b0 a0 :=
        ⟨rfl, rfl, rfl, fun l hl => (by cases hl), htm, rfl, fun d hd => (by cases hd), fun _ => ⟨fn, hf, rfl⟩⟩
      obtain ⟨w', fr2, j1, j0, j2, k2⟩ := h ρ w b0 a0 [.code body] cs c hfs (.cons _ _ _ _ (.code body) .nil)
      have he : Frame.enter P f #[] .normal = b0.atR a0 [.code body] := by
        unfold Frame.enter
        simp only [hf, Option.map_some, Option.getD_some, Option.bind_some, hbd]
        rfl
      refine ⟨.returned (.bool true), w', fr2, ⟨rfl, k2.os, k2.tape, k2.output, k2.size, fun x hx => k2.frame x hx fun n hn hl => ?_⟩, ?_, j0, j2⟩
      · exact absurd hn (c.fresh n (by rw [← hlim]; exact hl))
      · rw [he]; exact j1
    · cases hb
  · cases hb
end Go.Proofs.YtjdkfdhfodmbeaaDoor.Ax
