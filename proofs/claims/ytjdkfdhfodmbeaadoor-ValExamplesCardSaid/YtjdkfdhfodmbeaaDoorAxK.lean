/- An executor of closed runs: what its operations say of a world (5). -/
import Derived.Test.YtjdkfdhfodmbeaaDoorAxJ
import Derived.Laws.Append
import Derived.Lib.Split
namespace Go.Proofs.YtjdkfdhfodmbeaaDoor.Ax
open Go
variable {P : Program} {G : Nat}

theorem notInt_some {t : TypeId} (h : notInt P t = true) : ∃ d, P.underlying t = some d ∧ (∀ k, d ≠ .int k) := by
  unfold notInt at h
  split at h <;> try cases h
  rename_i d hne hu
  exact ⟨d, hu, fun k e => hne k (e ▸ rfl)⟩

theorem info_of_size {e : TypeId} {n : Nat} (h : size? P e = some n) : ∃ i, P.info? e = some i ∧ i.size = n := by
  unfold size? at h
  cases hi : P.info? e with
  | none => rw [hi] at h; cases h
  | some i => rw [hi] at h; simp at h; exact ⟨i, rfl, h⟩

/-- Append where there is room. -/
theorem append_fit {st xt e ty : TypeId} {size n sLen sCap : Nat} {base : Option Addr} {x : Value} {new : List Value} {w w' : World} (hst : P.underlying st = some (.slice e)) (hxt : notInt P xt = true) (hs : size? P e = some size)
    (hlen : (Builtin.lenOf x).run P w = .ok n w) (hnew : (Builtin.firstCells size n x).run P w = .ok ⟨new⟩ w) (hfit : sLen + n ≤ sCap)
    (hw : (match base with | some a => storeCells (a.add (sLen * size)) new | none => pure () : Sem Unit).run P w = .ok () w') :
    (Builtin.append_ #[st, xt] ty #[.slice base sLen sCap, x]).run P w = .ok (.slice base (sLen + n) sCap) w' := by
  obtain ⟨i, hi, rfl⟩ := info_of_size hs
  obtain ⟨d, hd, hne⟩ := notInt_some hxt
  have hm : (match d with | .int _ => true | _ => false) = false := by cases d <;> first | rfl | exact absurd rfl (hne _)
  cases base with
  | none =>
    cases hw
    simp [Builtin.append_, run_underlying hst, run_underlying hd, sizeOf, typeInfo, hi, hlen, hnew, hfit]
  | some a =>
    simp at hw
    simp [Builtin.append_, run_underlying hst, run_underlying hd, sizeOf, typeInfo, hi, hlen, hnew, hfit, hw]

theorem askRoom_run (n : Nat) (w : World) : (askRoom n).run P w = .ok () w := by
  unfold askRoom; split <;> rfl

/-- Append where the array must grow. -/
theorem append_grow {st xt e ty : TypeId} {size n sLen sCap : Nat} {base : Option Addr} {x : Value} {old new : List Value} {w : World} {inf : TypeInfo} {z : Value} (hst : P.underlying st = some (.slice e)) (hxt : notInt P xt = true) (hi : P.info? e = some inf) (hs : inf.size = size)
    (hz : inf.zero = some z)
    (hlen : (Builtin.lenOf x).run P w = .ok n w) (hnew : ∀ w' : World, w'.heap = w.heap → (Builtin.firstCells size n x).run P w' = .ok ⟨new⟩ w') (hold : ∀ w' : World, w'.heap = w.heap → (Builtin.firstCells size sLen (.slice base sLen sCap)).run P w' = .ok ⟨old⟩ w')
    (hfit : ¬ sLen + n ≤ sCap) (hneed : sLen + n ≤ most) (hbytes : inf.bytes ≤ 4096) :
    ∃ cap w', sLen + n ≤ cap ∧ cap ≤ big ∧ (Builtin.append_ #[st, xt] ty #[.slice base sLen sCap, x]).run P w = .ok (.slice (some ⟨w.heap.size, 0, none⟩) (sLen + n) cap) w' ∧
      w' = World.more { w with drawn := w.drawn + 1 } (.cells (⟨old⟩ ++ ⟨new⟩ ++ Builtin.zeroCells z.cells (cap - (sLen + n))) e) := by
  subst hs
  obtain ⟨d, hd, hne⟩ := notInt_some hxt
  have hm : (match d with | .int _ => true | _ => false) = false := by cases d <;> first | rfl | exact absurd rfl (hne _)
  have hge := grownCap_ge w (sLen + n) sCap e
  have hle := grownCap_le_maxLen w (sLen + n) sCap e (by unfold most at hneed; unfold maxLen; omega)
  have hnx : ¬ (281474976710656 < Builtin.nextslicecap (sLen + n) sCap * inf.bytes) := by
    have h1 : Builtin.nextslicecap (sLen + n) sCap ≤ 2 * (sLen + n) := nextslicecap_le (by omega)
    have h2 : Builtin.nextslicecap (sLen + n) sCap * inf.bytes ≤ (2 * 16777216) * 4096 := Nat.mul_le_mul (by unfold most at hneed; omega) hbytes
    omega
  refine ⟨grownCap w (sLen + n) sCap e, _, hge, by unfold maxLen at hle; unfold big; omega, ?_, rfl⟩
  have h63 : ¬ (9223372036854775807 < ((sLen : Int) + (n : Int))) := by unfold most at hneed; omega
  have h1 := hnew w.drew rfl
  have h2 := hold w.drew rfl
  simp [Builtin.append_, run_underlying hst, run_underlying hd, sizeOf, typeInfo, zeroValue, hi, hz, hlen, hfit, h63, hnx, Question.forced, newRow, grownCap, choose, Sem.run]
  rw [h2]
  simp only [Result.andThen_ok]
  rw [h1]
  simp only [Result.andThen_ok]
  simp only [World.more, World.alloc]
  congr 4
  all_goals first | rfl | (apply Array.ext'; simp)

theorem goInt_len {x x' : Value} {ρ : Rho} {n : Nat} (h : xlen x = some n) (hx : VR ρ x x') (w : World) : (Builtin.lenOf x').run P w = .ok n w := by
  cases hx <;> first
    | (cases h; rfl)
    | (have h' : some (_ : ByteArray).data.toList.length = some n := h
       cases h'
       show Result.ok _ w = _
       simp)
    | cases h

theorem ofBytes_vr {ρ : Rho} (l : List UInt8) : LR ρ (ofBytes l) (ofBytes l) ∧ ∀ v ∈ ofBytes l, oneC v = true :=
  ⟨LR.map _ fun x _ => .int _ _, fun v hv => by
    obtain ⟨x, _, rfl⟩ := List.mem_map.1 hv
    rfl⟩

theorem loadCells_heap {a : Addr} {n : Nat} {w w' : World} {r : Array Value} (h : w'.heap = w.heap) (hr : (loadCells a n).run P w = .ok r w) (hc : ∀ j, j < n → (w.cell? (a.add j)).isSome = true) : (loadCells a n).run P w' = .ok r w' := by
  have hcell : ∀ x, w'.cell? x = w.cell? x := fun x => by simp [World.cell?, h]
  have e1 := run_loadCells (P := P) w a n (fun j => (w.cell? (a.add j)).getD undef) fun j hj => by
    obtain ⟨v, hv⟩ := Option.isSome_iff_exists.1 (hc j hj)
    rw [hv]; rfl
  have e2 := run_loadCells (P := P) w' a n (fun j => (w.cell? (a.add j)).getD undef) fun j hj => by
    obtain ⟨v, hv⟩ := Option.isSome_iff_exists.1 (hc j hj)
    rw [hcell, hv]; rfl
  rw [e1] at hr
  rw [e2]
  injection hr with h1 _
  rw [h1]

/-- A run of cells, in every world with this memory. -/
theorem read_all {ρ : Rho} {w : World} {blk sh : Nat} {t : T Value} (h : ∀ i v, t.get i = some v → oneC v = true ∧ ∃ v', w.cell? ⟨blk, sh + i, none⟩ = some v' ∧ VR ρ v v') {o n : Nat} {l : List Value} (hr : readCells t o n = some l) :
    ∃ l', LR ρ l l' ∧ l'.length = n ∧ (∀ v ∈ l, oneC v = true) ∧ ∀ w' : World, w'.heap = w.heap → (loadCells ⟨blk, sh + o, none⟩ n).run P w' = .ok l'.toArray w' := by
  obtain ⟨l', h1, h2, h3, h4⟩ := read_list (P := P) h hr
  refine ⟨l', h1, h2, h3, fun w' hw => loadCells_heap hw h4 fun j hj => ?_⟩
  obtain ⟨hlen, hget⟩ := readCells_spec t n o l hr
  obtain ⟨_, v', h5, _⟩ := h (o + j) l[j] (by rw [hget j hj]; exact List.getElem?_eq_getElem (by omega))
  rw [Addr.add_lit, Nat.add_assoc, h5]; rfl

/-- The first elements of a slice or a string. -/
theorem first_ok {hp : Hp} {ρ : Rho} {w : World} (hs : Sat P G hp ρ w) {size n : Nat} {x x' : Value} {l : List Value} (hx : VR ρ x x') (h : xfirst hp size n x = some l) (hn : ∃ m, xlen x = some m ∧ n ≤ m) :
    ∃ l', LR ρ l l' ∧ (∀ v ∈ l, oneC v = true) ∧ l.length = n * size ∧ ∀ w' : World, w'.heap = w.heap → (Builtin.firstCells size n x').run P w' = .ok ⟨l'⟩ w' := by
  obtain ⟨m, hm, hnm⟩ := hn
  cases hx with
  | string s =>
    replace h : pick (Nat.beq size 1) (fScals (ofBytes (s.data.toList.take n)) fun l => some l) none = some l := h
    cases hb : Nat.beq size 1 with
    | false => rw [hb] at h; cases h
    | true =>
      rw [hb] at h
      rw [pick_true, fScals_eq] at h
      cases h
      have := Nat.eq_of_beq_eq_true hb
      subst this
      obtain ⟨h1, h2⟩ := ofBytes_vr (ρ := ρ) (s.data.toList.take n)
      have hm' : s.data.toList.length = m := Option.some.inj hm
      refine ⟨_, h1, h2, by simp [ofBytes]; simp at hm'; omega, fun w' _ => ?_⟩
      show Result.ok _ w' = _
      congr 1
      apply Array.ext'
      show ((s.extract 0 n).data.map fun b => Value.int .u8 b.toNat).toList = _
      rw [Array.toList_map, Lib.extract_from_zero]
      rfl
  | nilSlice a b =>
    replace h : pick (Nat.beq n 0) (some []) none = some l := h
    cases hb : Nat.beq n 0 with
    | false => rw [hb] at h; cases h
    | true =>
      rw [hb] at h; cases h
      have := Nat.eq_of_beq_eq_true hb
      subst this
      exact ⟨[], .nil, (fun v hv => by cases hv), by simp, fun w' _ => rfl⟩
  | slice b o ln cp hok hc =>
    have h' : onRead (hp.vis b) none (fun ct => readCells ct o (n * size)) = some l := h
    cases hv : hp.vis b with
    | none => rw [hv] at h'; cases h'
    | some ob =>
      rw [hv] at h'
      cases ob <;> try cases h'
      all_goals
        obtain ⟨_, hread⟩ := read_cells hs (b := b) (by first | exact .inl ⟨_, _, hv⟩ | exact .inr hv)
        obtain ⟨l', h1, h2, h3, h4⟩ := read_all (P := P) hread h'
        exact ⟨l', h1, h3, by rw [h1.length, h2], h4⟩
  | openS b o ln y c' hok g1 g2 g3 g4 =>
    have h' : onRead (hp.vis b) none (fun ct => readCells ct o (n * size)) = some l := h
    have hm' : ln = m := Option.some.inj hm
    by_cases hln : 0 < ln
    · rw [g3 hln]
      cases hv : hp.vis b with
      | none => rw [hv] at h'; cases h'
      | some ob =>
        rw [hv] at h'
        cases ob <;> try cases h'
        all_goals
          obtain ⟨_, hread⟩ := read_cells hs (b := b) (by first | exact .inl ⟨_, _, hv⟩ | exact .inr hv)
          obtain ⟨l', h1, h2, h3, h4⟩ := read_all (P := P) hread h'
          exact ⟨l', h1, h3, by rw [h1.length, h2], h4⟩
    · have h0 : n = 0 := by omega
      subst h0
      have hl : l = [] := by
        cases hv : hp.vis b with
        | none => rw [hv] at h'; cases h'
        | some ob =>
          rw [hv] at h'
          cases ob <;> try cases h'
          all_goals
            have := (readCells_spec _ _ _ _ h').1
            rw [Nat.zero_mul] at this
            exact List.eq_nil_of_length_eq_zero this
      subst hl
      refine ⟨[], .nil, (fun v hv => by cases hv), by simp, fun w' _ => ?_⟩
      show (loadCells _ (0 * size)).run P w' = _
      rw [Nat.zero_mul]; rfl
  | _ => cases hm

/-- A list made longer, at a new block. -/
theorem grow_vr {hp : Hp} {ρ : Rho} {w w0 : World} (hs : Sat P G hp ρ w) (hf : ¬ ρ.ok hp.next) {e size need cap : Nat} (hsz : size? P e = some size) {l l' : List Value} (hl : LR ρ l l') (h1 : ∀ v ∈ l, oneC v = true) (hlen : l.length = need * size) {rest : Array Value}
    (hrest : rest.size = (cap - need) * size) (hcap : need ≤ cap) (hbig : cap ≤ big) (hw0 : w0.heap = w.heap) (hos : w0.os = w.os) (htp : w0.tape = w.tape) (hout : w0.output = w.output) :
    ∃ ρ', Post P G hp (hp.new (.cells (T.setList l .leaf 0) l.length e)) ρ ρ' w (World.more w0 (.cells (l'.toArray ++ rest) e)) ∧ VR ρ' (.slice (some ⟨hp.next, 0, none⟩) need big) (.slice (some ⟨w.heap.size, 0, none⟩) need cap) := by
  have hs0 : Sat P G hp ρ w0 := by
    refine ⟨fun n o hn => ?_, hs.inj, hs.lt, hs.lim, hs.glob⟩
    obtain ⟨g1, g2, g3⟩ := hs.vis n o hn
    exact ⟨g1, by rw [hw0]; exact g2, g3.mono g1 (.refl ρ) (by rw [hw0])⟩
  obtain ⟨ρ', r1, r2, r3, r4, r5, r6⟩ := new_cells hs0 hf (T.setList l .leaf 0) l.length e (l'.toArray ++ rest) (by simp [hl.length]) fun i v hi => by
    have h := get_list_leaf l i v hi
    obtain ⟨v', h2, h3⟩ := hl.get_some h
    refine ⟨h1 v (List.mem_of_getElem? h), v', ?_, h3⟩
    rw [Array.getElem?_append_left (by simpa using (List.getElem?_eq_some_iff.1 h2).1)]
    simpa using h2
  refine ⟨ρ', ?_, ?_⟩
  · have p := r1
    exact ⟨p.sat, p.ext, p.new, p.all, p.was, p.next, p.hid, p.limE, p.hidget, p.keep, p.wr, p.wrlt, by rw [← hw0]; exact p.size, fun b hb hall => by rw [p.frame b (by rw [hw0]; exact hb) hall, hw0],
      fun n a b => by have := p.fresh n a b; rwa [hw0] at this, by rw [p.os, hos], by rw [p.tape, htp], by rw [p.output, hout]⟩
  · have hcl : (l'.toArray ++ rest).size = cap * size := by
      simp only [Array.size_append, List.size_toArray, hrest, ← hl.length, hlen, ← Nat.add_mul]
      rw [Nat.add_sub_cancel' hcap]
    have := VR.openS (ρ := ρ') hp.next 0 need 0 cap r4 hcap hbig (fun _ => by rw [r3]) (by rw [r5, r6, hsz, hcl]; simp)
    rw [r2, hw0] at this
    exact this

theorem append_ok {st xt e ty : TypeId} {size : Nat} {inf : TypeInfo} {zl : List Value} (hst : P.underlying st = some (.slice e)) (hxt : notInt P xt = true) (hs : size? P e = some size) (hi : P.info? e = some inf) (hz : zeroL P e = some zl) (hby : inf.bytes ≤ 4096) (hzl : zl.length = size) :
    Ok2 P G (xappend e size) (fun s x => valN (Builtin.append_ #[st, xt] ty #[s, x])) := by
  intro a b hp v hp' hr ρ w N a' b' c ha hb hN
  unfold xappend at hr
  replace hr := onSlice_ok hr
  obtain ⟨base, sLen, sCap, rfl, hr⟩ := hr
  replace hr := onSome_ok hr
  obtain ⟨n, hn, hr⟩ := hr
  replace hr := onSome_ok hr
  obtain ⟨new, hnew, hr⟩ := hr
  rw [fNat_eq] at hr
  replace hr := pick_ok hr
  obtain ⟨hneed, hr⟩ := hr
  rw [Nat.ble_eq] at hneed
  have hneed : sLen + n ≤ most := hneed
  obtain ⟨new', hl, hone, hlen, hrun⟩ := first_ok c.sat hb hnew ⟨n, hn, Nat.le_refl _⟩
  have hlr := goInt_len (P := P) hn hb w
  obtain ⟨z, hz1, hz2, hz3⟩ := zeroL_some hz
  have hzero : inf.zero = some z := by unfold zero? at hz1; rw [hi] at hz1; exact hz1
  have hisz : inf.size = size := by unfold size? at hs; rw [hi] at hs; simpa using hs
  have hzc : z.cells.size = size := by rw [cells_of_all1 (by rw [hz2]; exact hz3), hz2]; simpa using hzl
  have hzs : ∀ cap, (Builtin.zeroCells z.cells (cap - (sLen + n))).size = (cap - (sLen + n)) * size := fun cap => by rw [size_zeroCells, hzc]
  -- the array grows
  have grow : ∀ (hp1 : Hp) (base' : Option Addr) (cap' : Nat) (old old' : List Value), Sat P G hp1 ρ w → ¬ ρ.ok hp1.next → LR ρ old old' → (∀ v ∈ old, oneC v = true) → old.length = sLen * size →
      (∀ w' : World, w'.heap = w.heap → (Builtin.firstCells size sLen (.slice base' sLen cap')).run P w' = .ok ⟨old'⟩ w') → ¬ sLen + n ≤ cap' →
      ∃ v' ρ' w', (Builtin.append_ #[st, xt] ty #[.slice base' sLen cap', b']).run P w = .ok v' w' ∧ VR ρ' (.slice (some ⟨hp1.next, 0, none⟩) (sLen + n) big) v' ∧
        Post P G hp1 (hp1.new (.cells (T.setList (old ++ new) .leaf 0) (old ++ new).length e)) ρ ρ' w w' := by
    intro hp1 base' cap' old old' hs1 hf1 hol ho1 hol2 hrun2 hnot
    obtain ⟨cap, w', h1, h2, h3, h4⟩ := append_grow (ty := ty) (base := base') hst hxt hi hisz hzero hlr hrun hrun2 hnot hneed hby
    obtain ⟨ρ', p1, p2⟩ := grow_vr (w0 := { w with drawn := w.drawn + 1 }) hs1 hf1 hs (hol.append hl) (fun v hv => (List.mem_append.1 hv).elim (ho1 v) (hone v)) (need := sLen + n) (cap := cap) (by rw [List.length_append, hol2, hlen, ← Nat.add_mul]) (hzs cap) h1 h2 rfl rfl rfl rfl
    refine ⟨_, ρ', w', h3, p2, ?_⟩
    rw [h4]
    have : (⟨old'⟩ ++ ⟨new'⟩ ++ Builtin.zeroCells z.cells (cap - (sLen + n)) : Array Value) = (old' ++ new').toArray ++ Builtin.zeroCells z.cells (cap - (sLen + n)) := by
      apply Array.ext'; simp
    rw [this]
    exact p1
  cases base with
  | none =>
    replace hr : xappNil hp e sLen sCap n (sLen + n) new = .ok v hp' := hr
    unfold xappNil at hr
    replace hr := pick_ok hr
    obtain ⟨h00, hr⟩ := hr
    rw [andB_eq, Bool.and_eq_true] at h00
    have e1 := Nat.eq_of_beq_eq_true h00.1
    have e2 := Nat.eq_of_beq_eq_true h00.2
    subst e1 e2
    cases ha
    cases hn0 : Nat.beq n 0 with
    | true =>
      rw [hn0] at hr
      cases hr
      have := Nat.eq_of_beq_eq_true hn0
      subst this
      exact good_pure c (append_fit hst hxt hs hlr (hrun w rfl) (Nat.le_refl _) rfl) (.nilSlice _ _)
    | false =>
      rw [hn0, pick_false, xnewCells_eq] at hr
      cases hr
      have hn1 : ¬ 0 + n ≤ 0 := fun h => by
        have : n = 0 := by omega
        rw [this] at hn0; cases hn0
      obtain ⟨v', ρ', w', r1, r2, r3⟩ := grow hp none 0 [] [] c.sat (c.fresh _ (Nat.le_refl _) hN) .nil (fun v hv => by cases hv) (by simp) (fun w' _ => rfl) hn1
      exact ⟨_, v', ρ', w', run_valN r1, .inl rfl, r2, r3⟩
  | some ad =>
    replace hr : onAddr ad .no (fun b o => pick (Nat.beq sCap big) (xappOpen hp e size b o sLen (sLen + n) new) (xappExact hp e size b o sLen sCap (sLen + n) new)) = .ok v hp' := hr
    replace hr := onAddr_ok hr
    obtain ⟨b0, o, rfl, hr⟩ := hr
    cases hcb : Nat.beq sCap big with
    | true =>
      rw [hcb] at hr
      replace hr : xappOpen hp e size b0 o sLen (sLen + n) new = .ok v hp' := hr
      unfold xappOpen at hr
      replace hr := onCells_ok hr
      obtain ⟨ct, m, e2, hv, hr⟩ := hr
      replace hr := onSome_ok hr
      obtain ⟨old, hold, hr⟩ := hr
      replace hr := pick_ok hr
      obtain ⟨hee, hr⟩ := hr
      have hee := Nat.eq_of_beq_eq_true hee
      subst hee
      rw [Hp.set_eq, xnewCells_eq] at hr
      cases hr
      have hcb' := Nat.eq_of_beq_eq_true hcb
      have hold : readCells ct o (sLen * size) = some old := hold
      cases ha with
      | slice _ _ _ _ hok hc => exact absurd hcb' (Nat.ne_of_lt hc)
      | openS _ _ _ x c' hok g1 g2 g3 g4 =>
        obtain ⟨_, hblt, ca, fz, k1, k2, k3, k4, k5, k6⟩ := c.sat.vis b0 _ hv
        have hesz : ρ.esz b0 = size := by rw [k5, hs]; rfl
        rw [hesz] at g4
        have pd := Post.drop c.sat hv
        have hf1 : ¬ ρ.ok (hp.upd b0 none).next := c.fresh _ (Nat.le_refl _) hN
        obtain ⟨_, hread⟩ := read_cells c.sat (b := b0) (.inl ⟨_, _, hv⟩)
        obtain ⟨old', q1, q2, q3, q4⟩ := read_all (P := P) hread hold
        have hol2 : old.length = sLen * size := by rw [q1.length, q2]
        have hrun2 : ∀ w' : World, w'.heap = w.heap → (Builtin.firstCells size sLen (.slice (some ⟨ρ.blk b0, x, none⟩) sLen c')).run P w' = .ok ⟨old'⟩ w' := by
          intro w' hw
          by_cases h0 : 0 < sLen
          · rw [g3 h0]; exact q4 w' hw
          · have e0 : sLen = 0 := by omega
            have : old' = [] := List.eq_nil_of_length_eq_zero (by rw [q2, e0, Nat.zero_mul])
            rw [this, e0]
            show (loadCells _ (0 * size)).run P w' = _
            rw [Nat.zero_mul]; rfl
        by_cases hfit : sLen + n ≤ c'
        · -- in place
          have hroom : x + sLen * size + new'.length ≤ ca.size := by
            have h1 : (sLen + n) * size ≤ c' * size := Nat.mul_le_mul_right _ hfit
            rw [Nat.add_mul] at h1
            rw [← hl.length, hlen, k2]
            omega
          have hone' : ∀ v ∈ new', oneC v = true := fun v hm => by
            obtain ⟨i, hi, rfl⟩ := List.mem_iff_getElem.1 hm
            have hi' : i < new.length := by rw [hl.length]; exact hi
            obtain ⟨v', h2, h3⟩ := hl.get_some (List.getElem?_eq_getElem hi')
            rw [List.getElem?_eq_getElem hi] at h2
            cases h2
            rw [h3.one]
            exact hone _ (List.getElem_mem hi')
          obtain ⟨c2, w2, r1, r2, r3, r4, r5⟩ := run_storeCells (P := P) (o := x + sLen * size) new' 0 ca w k1 (by omega) k4 hone'
          have hrunA : (Builtin.append_ #[st, xt] ty #[.slice (some ⟨ρ.blk b0, x, none⟩) sLen c', b']).run P w = .ok (.slice (some ⟨ρ.blk b0, x, none⟩) (sLen + n) c') w2 :=
            append_fit (base := some ⟨ρ.blk b0, x, none⟩) hst hxt hs hlr (hrun w rfl) hfit (by show (storeCells (Addr.add _ _) new').run P w = _; rw [Addr.add_lit]; exact r1)
          have hnb : b0 < hp.next := c.sat.lt b0 _ (Hp.vis_some hv).2
          have le := ρ.add_le (ρ.blk b0) x size ca.size hf1
          have pn : Post P G (hp.upd b0 none) ((hp.upd b0 none).new (.cells (T.setList (old ++ new) .leaf 0) (old ++ new).length e2)) ρ (ρ.add hp.next (ρ.blk b0) x size ca.size) w w2 := by
            refine Post.newAt pd.sat hf1 (Nat.le_of_eq r5.size.symm) (by rw [r5.size]; exact hblt) (fun k _ hk => r5.other k hk) r5.os r5.tape r5.output (fun n o hn e => ?_) (.inr ⟨b0, hok, ?_, rfl⟩) ?_
            · have hn' := hn
              rw [Hp.vis_upd] at hn'
              by_cases hh : hp.no n = true
              · rw [if_pos hh] at hn'; cases hn'
              · rw [if_neg hh] at hn'
                by_cases eb : n = b0
                · rw [if_pos eb] at hn'; cases hn'
                · rw [if_neg eb] at hn'
                  exact eb (c.sat.inj n b0 o _ (by rw [Hp.vis_eq, if_neg hh]; exact hn') hv e)
            · by_cases h : b0 < hp.lim
              · exact .inr (mem_addL.2 (.inr ⟨rfl, h⟩))
              · exact .inl ⟨Nat.le_of_not_lt h, hnb⟩
            · have f1 : (ρ.add hp.next (ρ.blk b0) x size ca.size).blk hp.next = ρ.blk b0 := if_pos rfl
              have f2 : (ρ.add hp.next (ρ.blk b0) x size ca.size).sh hp.next = x := if_pos rfl
              have f3 : (ρ.add hp.next (ρ.blk b0) x size ca.size).clen hp.next = ca.size := if_pos rfl
              have f4 : (ρ.add hp.next (ρ.blk b0) x size ca.size).esz hp.next = size := if_pos rfl
              show objSat P (ρ.add hp.next (ρ.blk b0) x size ca.size) w2 hp.next _
              refine ⟨c2, fz, by rw [f1]; exact r2, by rw [f3, r3], by rw [f2, r3, List.length_append, hol2]; rw [← hl.length] at hroom; omega, by rw [r3]; exact k4, by rw [f4, hs]; rfl, fun i v hi => ?_⟩
              have hi2 := get_list_leaf _ i v hi
              rw [f2, r4]
              by_cases hlt : i < old.length
              · rw [List.getElem?_append_left hlt] at hi2
                rw [if_neg (by omega)]
                obtain ⟨_, hget⟩ := readCells_spec ct _ _ _ hold
                have hpos : 0 < sLen := by
                  rcases Nat.eq_zero_or_pos sLen with h | h
                  · rw [hol2, h, Nat.zero_mul] at hlt; omega
                  · exact h
                obtain ⟨h5, v', h6, h7⟩ := k6 (o + i) v (by rw [hget i (by omega)]; exact hi2)
                refine ⟨h5, v', ?_, h7.mono le⟩
                rw [g3 hpos, Nat.add_assoc]; exact h6
              · rw [List.getElem?_append_right (by omega)] at hi2
                have hilt : i - old.length < new.length := (List.getElem?_eq_some_iff.1 hi2).1
                rw [if_pos (by rw [← hl.length]; omega)]
                obtain ⟨v', h6, h7⟩ := hl.get_some hi2
                refine ⟨hone v (List.mem_of_getElem? hi2), v', ?_, h7.mono le⟩
                rw [show x + i - (x + sLen * size + 0) = i - old.length by omega]; exact h6
          refine ⟨_, _, _, w2, run_valN hrunA, .inl rfl, ?_, pd.trans pn⟩
          have f1 : (ρ.add hp.next (ρ.blk b0) x size ca.size).blk hp.next = ρ.blk b0 := if_pos rfl
          have f2 : (ρ.add hp.next (ρ.blk b0) x size ca.size).sh hp.next = x := if_pos rfl
          have f3 : (ρ.add hp.next (ρ.blk b0) x size ca.size).clen hp.next = ca.size := if_pos rfl
          have f4 : (ρ.add hp.next (ρ.blk b0) x size ca.size).esz hp.next = size := if_pos rfl
          have := VR.openS (ρ := ρ.add hp.next (ρ.blk b0) x size ca.size) hp.next 0 (sLen + n) x c' (.inl rfl) hfit g2 (fun _ => by rw [f2]; rfl) (by rw [f3, f4, k2]; exact g4)
          rw [f1] at this
          exact this
        · obtain ⟨v', ρ', w', r1, r2, r3⟩ := grow (hp.upd b0 none) (some ⟨ρ.blk b0, x, none⟩) c' old old' pd.sat hf1 q1 q3 hol2 hrun2 hfit
          exact ⟨_, v', ρ', w', run_valN r1, .inl rfl, r2, pd.trans r3⟩
    | false =>
      rw [hcb] at hr
      replace hr : xappExact hp e size b0 o sLen sCap (sLen + n) new = .ok v hp' := hr
      unfold xappExact at hr
      cases ha with
      | openS => simp at hcb
      | slice _ _ _ _ hok hc =>
        cases hfit : Nat.ble (sLen + n) sCap with
        | true =>
          rw [hfit, pick_true, fNat_eq] at hr
          rw [Nat.ble_eq] at hfit
          unfold xwrite at hr
          replace hr := onCells_ok hr
          obtain ⟨ct, m, e2, hv, hr⟩ := hr
          replace hr := pick_ok hr
          obtain ⟨hle, hr⟩ := hr
          rw [Nat.ble_eq] at hle
          rw [T.putList_eq, Hp.set_eq] at hr
          cases hr
          obtain ⟨w', r1, r2⟩ := write_cells c.sat hv hl hone hle
          refine ⟨_, _, ρ, w', run_valN (append_fit (base := some ⟨ρ.blk b0, ρ.sh b0 + o, none⟩) hst hxt hs hlr (hrun w rfl) hfit ?_), .inl rfl, .slice b0 o _ _ hok hc, r2⟩
          show (storeCells (Addr.add _ _) new').run P w = _
          rw [Addr.add_lit, Nat.add_assoc]; exact r1
        | false =>
          rw [hfit, pick_false] at hr
          replace hr := onRead_ok hr
          obtain ⟨ct, hv, hr⟩ := hr
          replace hr := onSome_ok hr
          obtain ⟨old, hold, hr⟩ := hr
          rw [xnewCells_eq] at hr
          cases hr
          obtain ⟨_, hread⟩ := read_cells c.sat hv
          obtain ⟨old', q1, q2, q3, q4⟩ := read_all (P := P) hread hold
          have hnot : ¬ sLen + n ≤ sCap := fun h => by rw [← Nat.ble_eq] at h; rw [h] at hfit; cases hfit
          obtain ⟨v', ρ', w', r1, r2, r3⟩ := grow hp (some ⟨ρ.blk b0, ρ.sh b0 + o, none⟩) sCap old old' c.sat (c.fresh _ (Nat.le_refl _) hN) q1 q3 (by rw [q1.length, q2]; rfl) q4 hnot
          exact ⟨_, v', ρ', w', run_valN r1, .inl rfl, r2, r3⟩
end Go.Proofs.YtjdkfdhfodmbeaaDoor.Ax
