/- An executor of closed runs: what its operations say of a world (6). -/
import Derived.Test.YtjdkfdhfodmbeaaDoorAxK
import Derived.Lib.ConvBytes
import Derived.Laws.BytesString
namespace Go.Proofs.YtjdkfdhfodmbeaaDoor.Ax
open Go
variable {P : Program} {G : Nat}

/-! Parts laid over cells. -/
theorem foldl_put (off : Nat) : ∀ (vs : List Value) (i : Nat) (c : Array Value),
    ((vs.zipIdx i).foldl (fun (cs : Array Value) (x : Value × Nat) => cs.setIfInBounds (off + x.2) x.1) c).size = c.size ∧
    ∀ k, ((vs.zipIdx i).foldl (fun (cs : Array Value) (x : Value × Nat) => cs.setIfInBounds (off + x.2) x.1) c)[k]? = if off + i ≤ k ∧ k < off + i + vs.length ∧ k < c.size then vs[k - (off + i)]? else c[k]?
  | [], i, c => ⟨rfl, fun k => by rw [if_neg (by simp; omega)]; rfl⟩
  | v :: vs, i, c => by
    obtain ⟨h1, h2⟩ := foldl_put off vs (i + 1) (c.setIfInBounds (off + i) v)
    simp only [List.zipIdx_cons, List.foldl_cons]
    refine ⟨by rw [h1]; simp, fun k => ?_⟩
    rw [h2]
    simp only [List.length_cons, Array.size_setIfInBounds, Array.getElem?_setIfInBounds]
    by_cases e : k = off + i
    · subst e
      by_cases hc : off + i < c.size
      · rw [if_neg (by omega), if_pos rfl, if_pos hc, if_pos (by omega)]; simp
      · rw [if_neg (by omega), if_pos rfl, if_neg hc, if_neg (by omega)]
        exact (Array.getElem?_eq_none (by omega)).symm
    · rw [if_neg (Ne.symm e)]
      by_cases hh : off + i ≤ k ∧ k < off + i + (vs.length + 1) ∧ k < c.size
      · rw [if_pos (by omega), if_pos hh]
        obtain ⟨d, rfl⟩ : ∃ d, k = off + (i + 1) + d := ⟨k - (off + (i + 1)), by omega⟩
        rw [show off + (i + 1) + d - (off + (i + 1)) = d by omega, show off + (i + 1) + d - (off + i) = d + 1 by omega]; simp
      · rw [if_neg (by omega), if_neg hh]

theorem fill_cons {place : Nat → Option (Nat × Nat)} {c : Array Value} {i off size : Nat} {v : Value} {rest : List (Nat × Value)} (hp : place i = some (off, size)) (hv : v.cells.size = size) (hfit : off + size ≤ c.size) :
    ∃ c1 : Array Value, Instr.fill place c ((i, v) :: rest) = Instr.fill place c1 rest ∧ c1.size = c.size ∧ ∀ k, c1[k]? = if off ≤ k ∧ k < off + size then v.cells.toList[k - off]? else c[k]? := by
  obtain ⟨h1, h2⟩ := foldl_put off v.cells.toList 0 c
  refine ⟨_, ?_, h1, fun k => ?_⟩
  · show (match place i with | none => none | some (off, size) => _) = _
    rw [hp]
    show (if (v.cells.size ≠ size || decide (off + v.cells.size > c.size)) = true then none else Instr.fill place _ rest) = _
    have : (decide (v.cells.size ≠ size) || decide (off + v.cells.size > c.size)) = false := by
      rw [hv]; simp; omega
    rw [if_neg (by rw [this]; simp)]
    congr 1
    rw [← Array.foldl_toList, Array.toList_zipIdx]
  · rw [h2]
    simp only [Nat.add_zero, Array.length_toList, hv]
    by_cases hh : off ≤ k ∧ k < off + size
    · rw [if_pos hh, if_pos (by omega)]
    · rw [if_neg hh, if_neg (by omega)]

theorem opBxC_spec {β : Type} (x : Operand) : ∃ f, opBxC (β := β) x = .mk f ∧ ∀ tm k, f tm k = k [evA tm x] := by
  cases x with
  | tmp t =>
    obtain ⟨g, hg, hs⟩ := T.getPath_spec (α := Value) (t + 1) t (Nat.lt_succ_self t)
    refine ⟨fun tm k => onSome (g tm) (k [undef]) fun v => k [v], ?_, fun tm k => ?_⟩
    · have : opBxC (β := β) (.tmp t) = T.GBx.rec (motive := fun _ => LBx β) (fun g => .mk fun tm k => onSome (g tm) (k [undef]) fun v => k [v]) (T.getPath (α := Value) (T.pathF (t + 1) t)) := rfl
      rw [this, hg]
    · show onSome (g tm) (k [undef]) (fun v => k [v]) = k [onSome (tm.get t) undef fun v => v]
      rw [hs]
      cases tm.get t <;> rfl
  | const v => exact ⟨_, rfl, fun _ _ => rfl⟩
  | global g => exact ⟨_, rfl, fun _ _ => rfl⟩
  | func f => exact ⟨_, rfl, fun _ _ => rfl⟩
theorem opsBx_spec {β : Type} : ∀ l : List Operand, ∃ h, opsBx (β := β) l = .mk h ∧ ∀ tm k, h tm k = k (l.map (evA tm))
  | [] => ⟨_, rfl, fun _ _ => rfl⟩
  | x :: l => by
    obtain ⟨h, h1, h2⟩ := opsBx_spec (β := β) l
    obtain ⟨g, g1, g2⟩ := opBxC_spec (β := β) x
    refine ⟨fun tm k => g tm fun l => h tm fun vs => consL k l vs, ?_, fun tm k => ?_⟩
    · have : opsBx (β := β) (x :: l) = LBx.rec (motive := fun _ => LBx β) (fun h => LBx.rec (motive := fun _ => LBx β) (fun g => .mk fun tm k => g tm fun l => h tm fun vs => consL k l vs) (opBxC x)) (opsBx l) := rfl
      rw [this, h1, g1]
    · show g tm (fun l => h tm fun vs => consL k l vs) = _
      rw [g2, h2]; rfl

theorem map_vr {ρ : Rho} {tm : T Value} {ev : Operand → Value} {l : List Operand} (h : ∀ x ∈ l, VR ρ (evA tm x) (ev x)) : LR ρ (l.map (evA tm)) (l.map ev) := LR.map _ h

theorem bxMake_ok {o : Oper} {fn : Fn} {a b : Array Operand} (ho : o.op = .makeFunc fn a b) {f : T Value → Hp → R} (h : bxMake fn a.toList b.toList = .op f) : BxOk P G o f := by
  have ha : ∀ x ∈ a.toList, x ∈ o.op.operands := by intro x hx; rw [ho]; simp [Op.operands]; left; simpa using hx
  have hb : ∀ x ∈ b.toList, x ∈ o.op.operands := by intro x hx; rw [ho]; simp [Op.operands]; right; simpa using hx
  have he : ∀ ev, execOp ev o = valN (Instr.makeFunc fn (a.map ev) (b.map ev)) := fun ev => by unfold execOp; rw [ho]; rfl
  obtain ⟨g1, e1, s1⟩ := opsBx_spec (β := R) a.toList
  obtain ⟨g2, e2, s2⟩ := opsBx_spec (β := R) b.toList
  have hny : noYield fn = true := by
    cases fn <;> first | rfl | cases h
  have hf : f = fun tm hp => g1 tm fun a => g2 tm fun b => .ok (.func fn ⟨a⟩ ⟨b⟩) hp := by
    unfold bxMake at h
    cases fn <;> first
      | (simp only [e1, e2] at h; cases h; rfl)
      | cases h
  subst hf
  intro tm hp v hp' hr ρ w N ev c hev hN
  replace hr : g1 tm (fun a => g2 tm fun b => .ok (.func fn ⟨a⟩ ⟨b⟩) hp) = .ok v hp' := hr
  rw [s1, s2] at hr
  cases hr
  rw [he]
  refine good_pure c (v' := .func fn (a.map ev) (b.map ev)) rfl ?_
  have := VR.func (ρ := ρ) fn (a.toList.map (evA tm)) (b.toList.map (evA tm)) (a.toList.map ev) (b.toList.map ev) hny (map_vr fun x hx => hev x (ha x hx)) (map_vr fun x hx => hev x (hb x hx))
  have ea : (⟨a.toList.map ev⟩ : Array Value) = a.map ev := by apply Array.ext'; simp
  have eb : (⟨b.toList.map ev⟩ : Array Value) = b.map ev := by apply Array.ext'; simp
  rw [ea, eb] at this
  exact this

theorem convI_ok {s d : TypeId} {k0 k : IntKind} (hs : P.underlying s = some (.int k0)) (hd : P.underlying d = some (.int k)) : Ok1 P G (convI k (topOf k) k.signed) (fun x => valN (convert s d x)) := by
  intro a hp v hp' h ρ w N a' c ha hN
  unfold convI at h
  replace h := onInt_ok h
  obtain ⟨j, n, rfl, h⟩ := h
  obtain ⟨rfl, rfl⟩ := iR_ok h
  cases ha
  rw [wrapI_eq]
  refine good_pure c ?_ (.int _ _)
  unfold convert
  rw [Sem.run_bind, run_underlying hs]
  simp only [Result.andThen_ok]
  rw [Sem.run_bind, run_underlying hd]
  rfl
theorem isByte_some {e : TypeId} (h : isByte P e = true) : P.underlying e = some (.int .u8) ∧ size? P e = some 1 := by
  unfold isByte at h
  split at h
  · rename_i h1 h2; exact ⟨h1, h2⟩
  · cases h

theorem toBytes_ok {s d e : TypeId} (hs : P.underlying s = some .string) (hd : P.underlying d = some (.slice e)) (hb : isByte P e = true) : Ok1 P G (toBytes e) (fun x => valN (convert s d x)) := by
  intro a hp v hp' h ρ w N a' c ha hN
  unfold toBytes at h
  replace h := onStr_ok h
  obtain ⟨str, rfl, h⟩ := h
  replace h := pick_ok h
  obtain ⟨hle, h⟩ := h
  rw [Nat.ble_eq] at hle
  rw [fScals_eq, xnewCells_eq, fNat_eq] at h
  cases h
  cases ha
  obtain ⟨he, hsz⟩ := isByte_some hb
  have hf := c.fresh hp.next (Nat.le_refl _) hN
  have hl : str.data.toList.length = str.size := by simp
  have hlen : (ofBytes str.data.toList).length = str.size := by simp [ofBytes]
  have hcap := grownCap_ge w str.size 0 e
  have hmost : str.size ≤ most := by rw [← hl]; exact hle
  have hmax := grownCap_le_maxLen w str.size 0 e (by unfold most at hmost; unfold maxLen; omega)
  have hcs : (Lib.bytesCells w e str).size = grownCap w str.size 0 e := by
    simp only [Lib.bytesCells, Array.size_append, Array.size_map, Array.size_replicate]
    have : str.data.size = str.size := rfl
    omega
  have le := ρ.add_le w.heap.size 0 1 (Lib.bytesCells w e str).size hf
  have e1 : (ρ.add hp.next w.heap.size 0 1 (Lib.bytesCells w e str).size).sh hp.next = 0 := if_pos rfl
  have e2 : (ρ.add hp.next w.heap.size 0 1 (Lib.bytesCells w e str).size).blk hp.next = w.heap.size := if_pos rfl
  have e3 : (ρ.add hp.next w.heap.size 0 1 (Lib.bytesCells w e str).size).esz hp.next = 1 := if_pos rfl
  have e4 : (ρ.add hp.next w.heap.size 0 1 (Lib.bytesCells w e str).size).clen hp.next = (Lib.bytesCells w e str).size := if_pos rfl
  have p : Post P G hp (hp.new (.cells (T.setList (ofBytes str.data.toList) .leaf 0) (ofBytes str.data.toList).length e)) ρ (ρ.add hp.next w.heap.size 0 1 (Lib.bytesCells w e str).size) w (Lib.bytesWorld w e str) := by
    refine Post.newAt c.sat hf (by rw [Lib.bytesWorld_size]; omega) (by rw [Lib.bytesWorld_size]; omega) (fun k hk _ => Lib.bytesWorld_at_old w e str k hk) rfl rfl rfl
      (fun n o hn => Nat.ne_of_lt (c.sat.vis n o hn).2.1) (.inl (Nat.le_refl _)) ?_
    refine ⟨Lib.bytesCells w e str, (_, _), by rw [e2]; exact Lib.bytesWorld_at_new w e str, e4.symm, by rw [e1, hcs, hlen]; omega, fun i hi h => by omega, by rw [e3, hsz]; rfl, fun i u hi => ?_⟩
    have h := get_list_leaf _ i u hi
    have hi' : i < str.data.toList.length := by
      have := (List.getElem?_eq_some_iff.1 h).1
      rw [hlen, ← hl] at this; exact this
    have hb' : (ofBytes str.data.toList)[i]? = some (.int .u8 (.ofNat (str.data.toList[i]).toNat)) := by rw [ofBytes, List.getElem?_map, List.getElem?_eq_getElem hi']; rfl
    rw [hb'] at h
    cases h
    refine ⟨rfl, .int .u8 (.ofNat (str.data.toList[i]).toNat), ?_, .int _ _⟩
    rw [e1, Nat.zero_add]
    unfold Lib.bytesCells
    rw [Array.getElem?_append_left (by simpa using hi')]
    have hi2 : i < str.data.size := by simpa using hi'
    rw [Array.getElem?_map, Array.getElem?_eq_getElem hi2]
    rfl
  have hv := VR.openS (ρ := ρ.add hp.next w.heap.size 0 1 (Lib.bytesCells w e str).size) hp.next 0 str.size 0 (grownCap w str.size 0 e) (.inl rfl) hcap (by unfold maxLen at hmax; unfold big; omega) (fun _ => by rw [e1]) (by rw [e3, e4, hcs]; omega)
  rw [e2] at hv
  rw [← hlen] at hv
  refine ⟨_, _, _, _, run_valN (Lib.run_convert_string_bytes (P := P) w s d e str hs hd he), .inl rfl, ?_, p⟩
  rw [← hlen]
  exact hv

theorem bytesIn_some : ∀ {l : List Value} {bs : List UInt8}, bytesIn l = some bs → ∃ ns : List Int, l = ns.map (Value.int .u8) ∧ bs = ns.map fun n => UInt8.ofNat n.toNat
  | [], bs, h => by cases h; exact ⟨[], rfl, rfl⟩
  | v :: l, bs, h => by
    unfold bytesIn at h
    split at h
    · cases ‹_ = []›
    · rename_i n vs heq
      cases heq
      cases hr : bytesIn l with
      | none => rw [hr] at h; cases h
      | some r =>
        rw [hr] at h
        cases h
        obtain ⟨ns, rfl, rfl⟩ := bytesIn_some hr
        exact ⟨n :: ns, rfl, rfl⟩
    · cases h

theorem ints_lr {ρ : Rho} : ∀ {ns : List Int} {l' : List Value}, LR ρ (ns.map (Value.int .u8)) l' → l' = ns.map (Value.int .u8)
  | [], _, h => by cases h; rfl
  | n :: ns, _, h => by
    cases h with
    | cons _ v' _ l' hv hl =>
      cases hv
      rw [ints_lr hl]; rfl

theorem foldl_push (f : Int → UInt8) : ∀ (ns : List Int) (s : ByteArray), ns.foldl (fun r n => r.push (f n)) s = ⟨⟨s.data.toList ++ ns.map f⟩⟩
  | [], s => by simp
  | n :: ns, s => by
    rw [List.foldl_cons, foldl_push f ns]
    simp [ByteArray.push]

theorem fromBytes_ok {s d e : TypeId} (hs : P.underlying s = some (.slice e)) (hd : P.underlying d = some .string) (hb : isByte P e = true) : Ok1 P G fromBytes (fun x => valN (convert s d x)) := by
  intro a hp v hp' h ρ w N a' c ha hN
  unfold fromBytes at h
  replace h := onSlice_ok h
  obtain ⟨base, len, cap, rfl, h⟩ := h
  replace h := onSome_ok h
  obtain ⟨l, hl, h⟩ := h
  replace h := onSome_ok h
  obtain ⟨bs, hbs, h⟩ := h
  rw [fBytes_eq] at h
  cases h
  obtain ⟨he, _⟩ := isByte_some hb
  obtain ⟨l', h1, _, _, hrun⟩ := first_ok c.sat ha hl ⟨len, rfl, Nat.le_refl _⟩
  obtain ⟨ns, rfl, rfl⟩ := bytesIn_some hbs
  have := ints_lr h1
  subst this
  have hstr : ns.foldl (fun r n => r.push (UInt8.ofNat n.toNat)) ByteArray.empty = ⟨⟨ns.map fun n => UInt8.ofNat n.toNat⟩⟩ := by rw [foldl_push]; rfl
  have go : ∀ (x : Addr) (cp : Nat), (∀ w' : World, w'.heap = w.heap → (Builtin.firstCells 1 len (.slice (some x) len cp)).run P w' = .ok ⟨ns.map (Value.int .u8)⟩ w') → (convert s d (.slice (some x) len cp)).run P w = .ok (.string ⟨⟨ns.map fun n => UInt8.ofNat n.toNat⟩⟩) w := by
    intro x cp hrun
    have hr := hrun w rfl
    replace hr : (loadCells x (len * 1)).run P w = .ok (ns.map (Value.int .u8)).toArray w := hr
    rw [Nat.mul_one] at hr
    rw [run_convert_bytes_string w s d e _ len cp hs he hd, run_bytesToString w x len cp ns hr, hstr]
  cases ha with
  | nilSlice =>
    have h0 : ns = [] := by
      replace hl : pick (Nat.beq len 0) (some []) none = some (ns.map (Value.int .u8)) := hl
      cases hb0 : Nat.beq len 0 with
      | false => rw [hb0] at hl; cases hl
      | true =>
        rw [hb0] at hl
        replace hl := Option.some.inj hl
        exact List.map_eq_nil_iff.1 hl.symm
    subst h0
    refine good_pure c ?_ (.string _)
    rw [run_convert_bytes_string w s d e _ len cap hs he hd]
    rfl
  | slice b o _ _ hok hc => exact good_pure c (go _ _ hrun) (.string _)
  | openS b o _ x cp hok g1 g2 g3 g4 => exact good_pure c (go _ _ hrun) (.string _)

theorem bxConvert_ok {o : Oper} {s d : TypeId} {x : Operand} (ho : o.op = .convert s d x) {f : T Value → Hp → R} (h : bxConvert P o s d x = .op f) : BxOk P G o f := by
  have hsel : ∀ cs b, o.op ≠ .select cs b := by rw [ho]; intro cs b e; cases e
  have hx : x ∈ o.op.operands := by rw [ho]; simp [Op.operands]
  have he : ∀ ev, execOp ev o = valN (convert s d (ev x)) := fun ev => by unfold execOp; rw [ho]; rfl
  unfold bxConvert at h
  split at h
  · rename_i hs hd
    rw [fNat_eq, fBool_eq] at h
    exact bx1p (S := fun a => valN (convert s d a)) hsel h (convI_ok hs hd) hx he
  · rename_i e hs hd
    cases hb : isByte P e with
    | true => rw [hb, cond_true] at h; exact bx1 (S := fun a => valN (convert s d a)) h (toBytes_ok hs hd hb) hx he
    | false => rw [hb, cond_false] at h; unfold plainBx at h; cases h; exact plain_ok hsel
  · rename_i e hs hd
    cases hb : isByte P e with
    | true => rw [hb, cond_true] at h; exact bx1 (S := fun a => valN (convert s d a)) h (fromBytes_ok hs hd hb) hx he
    | false => rw [hb, cond_false] at h; unfold plainBx at h; cases h; exact plain_ok hsel
  · unfold plainBx at h; cases h; exact plain_ok hsel

/-! New rows of zeros. -/
def zerosT (z : List Value) : Nat → Nat → T Value → T Value
  | 0, _, t => t
  | n + 1, o, t => zerosT z n (o + z.length) (T.setList z t o)
theorem zeros_eq {β : Type} (z : List Value) : ∀ (n o : Nat) (t : T Value) (k : T Value → β), zeros z n o t k = k (zerosT z n o t)
  | 0, o, t, k => rfl
  | n + 1, o, t, k => by
    show T.putList z t o (fun t => fNat (o + z.length) fun o => zeros z n o t k) = _
    rw [T.putList_eq, fNat_eq, zeros_eq z n]; rfl
theorem get_zerosT (z : List Value) : ∀ (n o : Nat) (t : T Value) (i : Nat), (zerosT z n o t).get i = if o ≤ i ∧ i < o + n * z.length then z[(i - o) % z.length]? else t.get i
  | 0, o, t, i => by rw [if_neg (by omega)]; rfl
  | n + 1, o, t, i => by
    show (zerosT z n (o + z.length) (T.setList z t o)).get i = _
    rw [get_zerosT z n, T.get_setList, Nat.add_mul, Nat.one_mul]
    by_cases h1 : o ≤ i ∧ i < o + z.length
    · rw [if_neg (by omega), if_pos h1, if_pos (by omega), Nat.mod_eq_of_lt (by omega)]
    · by_cases h2 : o + z.length ≤ i ∧ i < o + z.length + n * z.length
      · rw [if_pos h2, if_pos (by omega)]
        congr 1
        rw [show i - o = i - (o + z.length) + z.length by omega, Nat.add_mod_right]
      · rw [if_neg h2, if_neg h1, if_neg (by omega)]
end Go.Proofs.YtjdkfdhfodmbeaaDoor.Ax
