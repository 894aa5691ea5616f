/- An executor of closed runs: what its operations say of a world (6). -/
import Derived.Test.YthdhclcdngdkdaaAxK
namespace Go.Proofs.Ythdhclcdngdkdaa.Ax
open Go
variable {P : Program} {G : Nat}

/-! Parts laid over cells. -/
theorem foldl_put (off : Nat) : ∀ (vs : List Value) (i : Nat) (c : Array Value),
    ((vs.zipIdx i).foldl (fun (cs : Array Value) (x : Value × Nat) => cs.setIfInBounds (off + x.2) x.1) c).size = c.size ∧
    ∀ k, ((vs.zipIdx i).foldl (fun (cs : Array Value) (x : Value × Nat) => cs.setIfInBounds (off + x.2) x.1) c)[k]? = if off + i ≤ k ∧ k < off + i + vs.length ∧ k < c.size then vs[k - (off + i)]? else c[k]?
  | [], i, c => ⟨rfl, fun k => by rw [if_neg (by simp; omega)]; rfl⟩
  | v :: vs, i, c => by
    obtain ⟨h1, h2⟩ := foldl_put off vs (i + 1) (c.setIfInBounds (off + i) v)
    simp only [List.zipIdx_cons, List.foldl_cons]
    refine ⟨by rw [h1]; simp, fun k => ?_⟩
    rw [h2]
    simp only [List.length_cons, Array.size_setIfInBounds, Array.getElem?_setIfInBounds]
    by_cases e : k = off + i
    · subst e
      by_cases hc : off + i < c.size
      · rw [if_neg (by omega), if_pos rfl, if_pos hc, if_pos (by omega)]; simp
      · rw [if_neg (by omega), if_pos rfl, if_neg hc, if_neg (by omega)]
        exact (Array.getElem?_eq_none (by omega)).symm
    · rw [if_neg (Ne.symm e)]
      by_cases hh : off + i ≤ k ∧ k < off + i + (vs.length + 1) ∧ k < c.size
      · rw [if_pos (by omega), if_pos hh]
        obtain ⟨d, rfl⟩ : ∃ d, k = off + (i + 1) + d := ⟨k - (off + (i + 1)), by omega⟩
        rw [show off + (i + 1) + d - (off + (i + 1)) = d by omega, show off + (i + 1) + d - (off + i) = d + 1 by omega]; simp
      · rw [if_neg (by omega), if_neg hh]

theorem fill_cons {place : Nat → Option (Nat × Nat)} {c : Array Value} {i off size : Nat} {v : Value} {rest : List (Nat × Value)} (hp : place i = some (off, size)) (hv : v.cells.size = size) (hfit : off + size ≤ c.size) :
    ∃ c1 : Array Value, Instr.fill place c ((i, v) :: rest) = Instr.fill place c1 rest ∧ c1.size = c.size ∧ ∀ k, c1[k]? = if off ≤ k ∧ k < off + size then v.cells.toList[k - off]? else c[k]? := by
  obtain ⟨h1, h2⟩ := foldl_put off v.cells.toList 0 c
  refine ⟨_, ?_, h1, fun k => ?_⟩
  · show (match place i with | none => none | some (off, size) => _) = _
    rw [hp]
    show (if (v.cells.size ≠ size || decide (off + v.cells.size > c.size)) = true then none else Instr.fill place _ rest) = _
    have : (decide (v.cells.size ≠ size) || decide (off + v.cells.size > c.size)) = false := by
      rw [hv]; simp; omega
    rw [if_neg (by rw [this]; simp)]
    congr 1
    rw [← Array.foldl_toList, Array.toList_zipIdx]
  · rw [h2]
    simp only [Nat.add_zero, Array.length_toList, hv]
    by_cases hh : off ≤ k ∧ k < off + size
    · rw [if_pos hh, if_pos (by omega)]
    · rw [if_neg hh, if_neg (by omega)]

theorem opBxC_spec {β : Type} (x : Operand) : ∃ f, opBxC (β := β) x = .mk f ∧ ∀ tm k, f tm k = k [evA tm x] := by
  cases x with
  | tmp t =>
    obtain ⟨g, hg, hs⟩ := T.getPath_spec (α := Value) (t + 1) t (Nat.lt_succ_self t)
    refine ⟨fun tm k => onSome (g tm) (k [undef]) fun v => k [v], ?_, fun tm k => ?_⟩
    · have : opBxC (β := β) (.tmp t) = T.GBx.rec (motive := fun _ => LBx β) (fun g => .mk fun tm k => onSome (g tm) (k [undef]) fun v => k [v]) (T.getPath (α := Value) (T.pathF (t + 1) t)) := rfl
      rw [this, hg]
    · show onSome (g tm) (k [undef]) (fun v => k [v]) = k [onSome (tm.get t) undef fun v => v]
      rw [hs]
      cases tm.get t <;> rfl
  | const v => exact ⟨_, rfl, fun _ _ => rfl⟩
  | global g => exact ⟨_, rfl, fun _ _ => rfl⟩
  | func f => exact ⟨_, rfl, fun _ _ => rfl⟩
theorem opsBx_spec {β : Type} : ∀ l : List Operand, ∃ h, opsBx (β := β) l = .mk h ∧ ∀ tm k, h tm k = k (l.map (evA tm))
  | [] => ⟨_, rfl, fun _ _ => rfl⟩
  | x :: l => by
    obtain ⟨h, h1, h2⟩ := opsBx_spec (β := β) l
    obtain ⟨g, g1, g2⟩ := opBxC_spec (β := β) x
    refine ⟨fun tm k => g tm fun l => h tm fun vs => consL k l vs, ?_, fun tm k => ?_⟩
    · have : opsBx (β := β) (x :: l) = LBx.rec (motive := fun _ => LBx β) (fun h => LBx.rec (motive := fun _ => LBx β) (fun g => .mk fun tm k => g tm fun l => h tm fun vs => consL k l vs) (opBxC x)) (opsBx l) := rfl
      rw [this, h1, g1]
    · show g tm (fun l => h tm fun vs => consL k l vs) = _
      rw [g2, h2]; rfl

theorem map_vr {ρ : Rho} {tm : T Value} {ev : Operand → Value} {l : List Operand} (h : ∀ x ∈ l, VR ρ (evA tm x) (ev x)) : LR ρ (l.map (evA tm)) (l.map ev) := LR.map _ h

theorem bxMake_ok {o : Oper} {fn : Fn} {a b : Array Operand} (ho : o.op = .makeFunc fn a b) {f : T Value → Hp → R} (h : bxMake fn a.toList b.toList = .op f) : BxOk P G o f := by
  have ha : ∀ x ∈ a.toList, x ∈ o.op.operands := by intro x hx; rw [ho]; simp [Op.operands]; left; simpa using hx
  have hb : ∀ x ∈ b.toList, x ∈ o.op.operands := by intro x hx; rw [ho]; simp [Op.operands]; right; simpa using hx
  have he : ∀ ev, execOp ev o = valN (Instr.makeFunc fn (a.map ev) (b.map ev)) := fun ev => by unfold execOp; rw [ho]; rfl
  obtain ⟨g1, e1, s1⟩ := opsBx_spec (β := R) a.toList
  obtain ⟨g2, e2, s2⟩ := opsBx_spec (β := R) b.toList
  have hny : noYield fn = true := by
    cases fn <;> first | rfl | cases h
  have hf : f = fun tm hp => g1 tm fun a => g2 tm fun b => .ok (.func fn ⟨a⟩ ⟨b⟩) hp := by
    unfold bxMake at h
    cases fn <;> first
      | (simp only [e1, e2] at h; cases h; rfl)
      | cases h
  subst hf
  intro tm hp v hp' hr ρ w N ev c hev hN
  replace hr : g1 tm (fun a => g2 tm fun b => .ok (.func fn ⟨a⟩ ⟨b⟩) hp) = .ok v hp' := hr
  rw [s1, s2] at hr
  cases hr
  rw [he]
  refine good_pure c (v' := .func fn (a.map ev) (b.map ev)) rfl ?_
  have := VR.func (ρ := ρ) fn (a.toList.map (evA tm)) (b.toList.map (evA tm)) (a.toList.map ev) (b.toList.map ev) hny (map_vr fun x hx => hev x (ha x hx)) (map_vr fun x hx => hev x (hb x hx))
  have ea : (⟨a.toList.map ev⟩ : Array Value) = a.map ev := by apply Array.ext'; simp
  have eb : (⟨b.toList.map ev⟩ : Array Value) = b.map ev := by apply Array.ext'; simp
  rw [ea, eb] at this
  exact this

theorem convI_ok {s d : TypeId} {k0 k : IntKind} (hs : P.underlying s = some (.int k0)) (hd : P.underlying d = some (.int k)) : Ok1 P G (convI k (topOf k) k.signed) (fun x => valN (convert s d x)) := by
  intro a hp v hp' h ρ w N a' c ha hN
  unfold convI at h
  replace h := onInt_ok h
  obtain ⟨j, n, rfl, h⟩ := h
  obtain ⟨rfl, rfl⟩ := iR_ok h
  cases ha
  rw [wrapI_eq]
  refine good_pure c ?_ (.int _ _)
  unfold convert
  rw [Sem.run_bind, run_underlying hs]
  simp only [Result.andThen_ok]
  rw [Sem.run_bind, run_underlying hd]
  rfl
theorem bxConvert_ok {o : Oper} {s d : TypeId} {x : Operand} (ho : o.op = .convert s d x) {f : T Value → Hp → R} (h : bxConvert P o s d x = .op f) : BxOk P G o f := by
  have hsel : ∀ cs b, o.op ≠ .select cs b := by rw [ho]; intro cs b e; cases e
  have hx : x ∈ o.op.operands := by rw [ho]; simp [Op.operands]
  have he : ∀ ev, execOp ev o = valN (convert s d (ev x)) := fun ev => by unfold execOp; rw [ho]; rfl
  unfold bxConvert at h
  split at h
  · rename_i hs hd
    rw [fNat_eq, fBool_eq] at h
    exact bx1p (S := fun a => valN (convert s d a)) hsel h (convI_ok hs hd) hx he
  · unfold plainBx at h; cases h; exact plain_ok hsel

/-! New rows of zeros. -/
def zerosT (z : List Value) : Nat → Nat → T Value → T Value
  | 0, _, t => t
  | n + 1, o, t => zerosT z n (o + z.length) (T.setList z t o)
theorem zeros_eq {β : Type} (z : List Value) : ∀ (n o : Nat) (t : T Value) (k : T Value → β), zeros z n o t k = k (zerosT z n o t)
  | 0, o, t, k => rfl
  | n + 1, o, t, k => by
    show T.putList z t o (fun t => fNat (o + z.length) fun o => zeros z n o t k) = _
    rw [T.putList_eq, fNat_eq, zeros_eq z n]; rfl
theorem get_zerosT (z : List Value) : ∀ (n o : Nat) (t : T Value) (i : Nat), (zerosT z n o t).get i = if o ≤ i ∧ i < o + n * z.length then z[(i - o) % z.length]? else t.get i
  | 0, o, t, i => by rw [if_neg (by omega)]; rfl
  | n + 1, o, t, i => by
    show (zerosT z n (o + z.length) (T.setList z t o)).get i = _
    rw [get_zerosT z n, T.get_setList, Nat.add_mul, Nat.one_mul]
    by_cases h1 : o ≤ i ∧ i < o + z.length
    · rw [if_neg (by omega), if_pos h1, if_pos (by omega), Nat.mod_eq_of_lt (by omega)]
    · by_cases h2 : o + z.length ≤ i ∧ i < o + z.length + n * z.length
      · rw [if_pos h2, if_pos (by omega)]
        congr 1
        rw [show i - o = i - (o + z.length) + z.length by omega, Nat.add_mod_right]
      · rw [if_neg h2, if_neg h1, if_neg (by omega)]
end Go.Proofs.Ythdhclcdngdkdaa.Ax
