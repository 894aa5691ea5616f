/- The executor of runs, part SxMb. -/
import Derived.Test.YtelanmknimapoaaGreatDoorSxMa
import Derived.Laws.Append
import Derived.Lib.Split
import Derived.Lib.ConvBytes
import Derived.Laws.BytesString
import Derived.RangeFuncRecord
import Derived.AtR
import Derived.RangeFuncIn
import Derived.RangeFuncLeaves
import Derived.Defers
import Derived.RangeFuncNested
import Derived.Below
/- An executor of closed runs: what its operations say of a world (5). -/
namespace Go.Proofs.YtelanmknimapoaaGreatDoor.Sx
open Go
variable {P : Program} {G : Env}
theorem zja {t : TypeId} (h : zk2 P t = true) : ∃ d, P.underlying t = some d ∧ (∀ k, d ≠ .int k) := by
 unfold zk2 at h
 split at h <;> try cases h
 rename_i d hne hu
 exact ⟨d, hu, fun k e => hne k (e ▸ rfl)⟩
theorem zhp {e : TypeId} {n : Nat} (h : size? P e = some n) : ∃ i, P.info? e = some i ∧ i.size = n := by
 unfold size? at h
 cases hi : P.info? e with
 | none => rw [hi] at h; cases h
 | some i => rw [hi] at h; simp at h; exact ⟨i, rfl, h⟩
theorem zhd {st xt e ty : TypeId} {size n sLen sCap : Nat} {base : Option Addr} {x : Value} {new : List Value} {w w' : World} (hst : P.underlying st = some (.slice e)) (hxt : zk2 P xt = true) (hs : size? P e = some size)
 (hlen : (Builtin.lenOf x).run P w = .ok n w) (hnew : (Builtin.firstCells size n x).run P w = .ok ⟨new⟩ w) (hfit : sLen + n ≤ sCap)
 (hw : (match base with | some a => storeCells (a.add (sLen * size)) new | none => pure () : Sem Unit).run P w = .ok () w') :
 (Builtin.append_ #[st, xt] ty #[.slice base sLen sCap, x]).run P w = .ok (.slice base (sLen + n) sCap) w' := by
 obtain ⟨i, hi, rfl⟩ := zhp hs
 obtain ⟨d, hd, hne⟩ := zja hxt
 have hm : (match d with | .int _ => true | _ => false) = false := by cases d <;> first | rfl | exact absurd rfl (hne _)
 cases base with
 | none =>
  cases hw
  simp [Builtin.append_, run_underlying hst, run_underlying hd, sizeOf, typeInfo, hi, hlen, hnew, hfit]
 | some a =>
  simp at hw
  simp [Builtin.append_, run_underlying hst, run_underlying hd, sizeOf, typeInfo, hi, hlen, hnew, hfit, hw]
theorem zp9 {st xt e ty : TypeId} {size n sLen sCap : Nat} {base : Option Addr} {x : Value} {old new : List Value} {w : World} {inf : TypeInfo} {z : Value} (hst : P.underlying st = some (.slice e)) (hxt : zk2 P xt = true) (hi : P.info? e = some inf) (hs : inf.size = size)
 (hz : inf.zero = some z)
 (hlen : (Builtin.lenOf x).run P w = .ok n w) (hnew : ∀ w' : World, w'.heap = w.heap → (Builtin.firstCells size n x).run P w' = .ok ⟨new⟩ w') (hold : ∀ w' : World, w'.heap = w.heap → (Builtin.firstCells size sLen (.slice base sLen sCap)).run P w' = .ok ⟨old⟩ w')
 (hfit : ¬ sLen + n ≤ sCap) (hneed : sLen + n ≤ most) (hbytes : inf.bytes ≤ 4096) :
 ∃ cap w', sLen + n ≤ cap ∧ cap ≤ big ∧ (Builtin.append_ #[st, xt] ty #[.slice base sLen sCap, x]).run P w = .ok (.slice (some ⟨w.heap.size, 0, none⟩) (sLen + n) cap) w' ∧
  w' = World.more { w with drawn := w.drawn + 1 } (.cells (⟨old⟩ ++ ⟨new⟩ ++ Builtin.zeroCells z.cells (cap - (sLen + n))) e) := by
 subst hs
 obtain ⟨d, hd, hne⟩ := zja hxt
 have hm : (match d with | .int _ => true | _ => false) = false := by cases d <;> first | rfl | exact absurd rfl (hne _)
 have hge := grownCap_ge w (sLen + n) sCap e
 have hle := grownCap_le_maxLen w (sLen + n) sCap e (by unfold most at hneed; unfold maxLen; omega)
 have hnx : ¬ (281474976710656 < Builtin.nextslicecap (sLen + n) sCap * inf.bytes) := by
  have h1 : Builtin.nextslicecap (sLen + n) sCap ≤ 2 * (sLen + n) := nextslicecap_le (by omega)
  have h2 : Builtin.nextslicecap (sLen + n) sCap * inf.bytes ≤ (2 * 16777216) * 4096 := Nat.mul_le_mul (by unfold most at hneed; omega) hbytes
  omega
 refine ⟨grownCap w (sLen + n) sCap e, _, hge, by unfold maxLen at hle; unfold big; omega, ?_, rfl⟩
 have h63 : ¬ (9223372036854775807 < ((sLen : Int) + (n : Int))) := by unfold most at hneed; omega
 have h1 := hnew w.drew rfl
 have h2 := hold w.drew rfl
 simp [Builtin.append_, run_underlying hst, run_underlying hd, sizeOf, typeInfo, zeroValue, hi, hz, hlen, hfit, h63, hnx, Question.forced, newRow, grownCap, choose, Sem.run]
 rw [h2]
 simp only [Result.andThen_ok]
 rw [h1]
 simp only [Result.andThen_ok]
 simp only [World.more, World.alloc]
 congr 4
 all_goals first | rfl | (apply Array.ext'; simp)
theorem zn1 {x x' : Value} {ρ : Rho} {n : Nat} (h : xlen x = some n) (hx : VR ρ x x') (w : World) : (Builtin.lenOf x').run P w = .ok n w := by
 cases hx <;> first
  | (cases h; rfl)
  | (have h' : some (_ : ByteArray).data.toList.length = some n := h
     cases h'
     show Result.ok _ w = _
     simp)
  | cases h
theorem zs3 {ρ : Rho} (l : List UInt8) : LR ρ (ofBytes l) (ofBytes l) ∧ ∀ v ∈ ofBytes l, oneC v = true :=
 ⟨LR.map _ fun x _ => .int _ _, fun v hv => by
  obtain ⟨x, _, rfl⟩ := List.mem_map.1 hv
  rfl⟩
theorem zkj {a : Addr} {n : Nat} {w w' : World} {r : Array Value} (h : w'.heap = w.heap) (hr : (loadCells a n).run P w = .ok r w) (hc : ∀ j, j < n → (w.cell? (a.add j)).isSome = true) : (loadCells a n).run P w' = .ok r w' := by
 have hcell : ∀ x, w'.cell? x = w.cell? x := fun x => by simp [World.cell?, h]
 have e1 := run_loadCells (P := P) w a n (fun j => (w.cell? (a.add j)).getD undef) fun j hj => by
  obtain ⟨v, hv⟩ := Option.isSome_iff_exists.1 (hc j hj)
  rw [hv]; rfl
 have e2 := run_loadCells (P := P) w' a n (fun j => (w.cell? (a.add j)).getD undef) fun j hj => by
  obtain ⟨v, hv⟩ := Option.isSome_iff_exists.1 (hc j hj)
  rw [hcell, hv]; rfl
 rw [e1] at hr
 rw [e2]
 injection hr with h1 _
 rw [h1]
theorem zh3 {ρ : Rho} {w : World} {blk sh : Nat} {t : T Value} (h : ∀ i v, t.get i = some v → oneC v = true ∧ ∃ v', w.cell? ⟨blk, sh + i, none⟩ = some v' ∧ VR ρ v v') {o n : Nat} {l : List Value} (hr : za8 t o n = some l) :
 ∃ l', LR ρ l l' ∧ l'.length = n ∧ (∀ v ∈ l, oneC v = true) ∧ ∀ w' : World, w'.heap = w.heap → (loadCells ⟨blk, sh + o, none⟩ n).run P w' = .ok l'.toArray w' := by
 obtain ⟨l', h1, h2, h3, h4⟩ := zf1 (P := P) h hr
 refine ⟨l', h1, h2, h3, fun w' hw => zkj hw h4 fun j hj => ?_⟩
 obtain ⟨hlen, hget⟩ := za6 t n o l hr
 obtain ⟨_, v', h5, _⟩ := h (o + j) l[j] (by rw [hget j hj]; exact List.getElem?_eq_getElem (by omega))
 rw [Addr.add_lit, Nat.add_assoc, h5]; rfl
theorem zmn {hp : Hp} {ρ : Rho} {w : World} (hs : Sat P G hp ρ w) {size n : Nat} {x x' : Value} {l : List Value} (hx : VR ρ x x') (h : zqh hp size n x = some l) (hn : ∃ m, xlen x = some m ∧ n ≤ m) :
 ∃ l', LR ρ l l' ∧ (∀ v ∈ l, oneC v = true) ∧ l.length = n * size ∧ ∀ w' : World, w'.heap = w.heap → (Builtin.firstCells size n x').run P w' = .ok ⟨l'⟩ w' := by
 obtain ⟨m, hm, hnm⟩ := hn
 cases hx with
 | string s =>
  replace h : pick (Nat.beq size 1) (zjv (ofBytes (s.data.toList.take n)) fun l => some l) none = some l := h
  cases hb : Nat.beq size 1 with
  | false => rw [hb] at h; cases h
  | true =>
   rw [hb] at h
   rw [za9, zju] at h
   cases h
   have := Nat.eq_of_beq_eq_true hb
   subst this
   obtain ⟨h1, h2⟩ := zs3 (ρ := ρ) (s.data.toList.take n)
   have hm' : s.data.toList.length = m := Option.some.inj hm
   refine ⟨_, h1, h2, by simp [ofBytes]; simp at hm'; omega, fun w' _ => ?_⟩
   show Result.ok _ w' = _
   congr 1
   apply Array.ext'
   show ((s.extract 0 n).data.map fun b => Value.int .u8 b.toNat).toList = _
   rw [Array.toList_map, Lib.extract_from_zero]
   rfl
 | nilSlice a b =>
  replace h : pick (Nat.beq n 0) (some []) none = some l := h
  cases hb : Nat.beq n 0 with
  | false => rw [hb] at h; cases h
  | true =>
   rw [hb] at h; cases h
   have := Nat.eq_of_beq_eq_true hb
   subst this
   exact ⟨[], .nil, (fun v hv => by cases hv), by simp, fun w' _ => rfl⟩
 | slice b o ln cp hok hc =>
  have h' : onRead (hp.vis b) none (fun ct => za8 ct o (n * size)) = some l := h
  cases hv : hp.vis b with
  | none => rw [hv] at h'; cases h'
  | some ob =>
   rw [hv] at h'
   cases ob <;> try cases h'
   all_goals
    obtain ⟨_, hread⟩ := zbn hs (b := b) (by first | exact .inl ⟨_, _, hv⟩ | exact .inr hv)
    obtain ⟨l', h1, h2, h3, h4⟩ := zh3 (P := P) hread h'
    exact ⟨l', h1, h3, by rw [h1.length, h2], h4⟩
 | openS b o ln y c' hok g1 g2 g3 g4 =>
  have h' : onRead (hp.vis b) none (fun ct => za8 ct o (n * size)) = some l := h
  have hm' : ln = m := Option.some.inj hm
  by_cases hln : 0 < ln
  · rw [g3 hln]
    cases hv : hp.vis b with
    | none => rw [hv] at h'; cases h'
    | some ob =>
     rw [hv] at h'
     cases ob <;> try cases h'
     all_goals
      obtain ⟨_, hread⟩ := zbn hs (b := b) (by first | exact .inl ⟨_, _, hv⟩ | exact .inr hv)
      obtain ⟨l', h1, h2, h3, h4⟩ := zh3 (P := P) hread h'
      exact ⟨l', h1, h3, by rw [h1.length, h2], h4⟩
  · have h0 : n = 0 := by omega
    subst h0
    have hl : l = [] := by
     cases hv : hp.vis b with
     | none => rw [hv] at h'; cases h'
     | some ob =>
      rw [hv] at h'
      cases ob <;> try cases h'
      all_goals
       have := (za6 _ _ _ _ h').1
       rw [Nat.zero_mul] at this
       exact List.eq_nil_of_length_eq_zero this
    subst hl
    refine ⟨[], .nil, (fun v hv => by cases hv), by simp, fun w' _ => ?_⟩
    show (loadCells _ (0 * size)).run P w' = _
    rw [Nat.zero_mul]; rfl
 | _ => cases hm
theorem ydq {hp : Hp} {ρ : Rho} {w w0 : World} (hs : Sat P G hp ρ w) (hf : ¬ ρ.ok hp.next) {e size need cap : Nat} (hsz : size? P e = some size) {l l' : List Value} (hl : LR ρ l l') (h1 : ∀ v ∈ l, oneC v = true) (hlen : l.length = need * size) {rest : Array Value}
 (hrest : rest.size = (cap - need) * size) (hcap : need ≤ cap) (hbig : cap ≤ big) (hw0 : w0.heap = w.heap) (hos : w0.os = w.os) (htp : w0.tape = w.tape) (hout : w0.output = w.output) :
 ∃ ρ', Post P G hp (hp.new (.cells (T.setList l .leaf 0) l.length e)) ρ ρ' w (World.more w0 (.cells (l'.toArray ++ rest) e)) ∧ VR ρ' (.slice (some ⟨hp.next, 0, none⟩) need big) (.slice (some ⟨w.heap.size, 0, none⟩) need cap) := by
 have hs0 : Sat P G hp ρ w0 := by
  refine ⟨fun n o hn => ?_, hs.inj, hs.lt, hs.lim, hs.glob, hs.needok, hs.known⟩
  obtain ⟨g1, g2, g3⟩ := hs.vis n o hn
  exact ⟨g1, by rw [hw0]; exact g2, g3.mono g1 (.refl ρ) (by rw [hw0])⟩
 obtain ⟨ρ', r1, r2, r3, r4, r5, r6⟩ := zga hs0 hf (T.setList l .leaf 0) l.length e (l'.toArray ++ rest) (by simp [hl.length]) fun i v hi => by
  have h := zb6 l i v hi
  obtain ⟨v', h2, h3⟩ := hl.get_some h
  refine ⟨h1 v (List.mem_of_getElem? h), v', ?_, h3⟩
  rw [Array.getElem?_append_left (by simpa using (List.getElem?_eq_some_iff.1 h2).1)]
  simpa using h2
 refine ⟨ρ', ?_, ?_⟩
 · have p := r1
   exact ⟨p.sat, p.ext, p.new, p.all, p.was, p.next, p.hid, p.limE, p.hidget, p.keep, p.wr, p.wrlt, by rw [← hw0]; exact p.size, fun b hb hall => by rw [p.frame b (by rw [hw0]; exact hb) hall, hw0],
    fun n a b => by have := p.fresh n a b; rwa [hw0] at this, by rw [p.os, hos], by rw [p.tape, htp], by rw [p.output, hout]⟩
 · have hcl : (l'.toArray ++ rest).size = cap * size := by
    simp only [Array.size_append, List.size_toArray, hrest, ← hl.length, hlen, ← Nat.add_mul]
    rw [Nat.add_sub_cancel' hcap]
   have := VR.openS (ρ := ρ') hp.next 0 need 0 cap r4 hcap hbig (fun _ => by rw [r3]) (by rw [r5, r6, hsz, hcl]; simp)
   rw [r2, hw0] at this
   exact this
theorem zxe {st xt e ty : TypeId} {size : Nat} {inf : TypeInfo} {zl : List Value} (hst : P.underlying st = some (.slice e)) (hxt : zk2 P xt = true) (hs : size? P e = some size) (hi : P.info? e = some inf) (hz : zgk P e = some zl) (hby : inf.bytes ≤ 4096) (hzl : zl.length = size) :
 Ok2 P G (zou e size) (fun s x => valN (Builtin.append_ #[st, xt] ty #[s, x])) := by
 intro a b hp v hp' hr ρ w N a' b' c ha hb hN
 unfold zou at hr
 replace hr := zbw hr
 obtain ⟨base, sLen, sCap, rfl, hr⟩ := hr
 replace hr := zaq hr
 obtain ⟨n, hn, hr⟩ := hr
 replace hr := zaq hr
 obtain ⟨new, hnew, hr⟩ := hr
 rw [zar] at hr
 replace hr := zaw hr
 obtain ⟨hneed, hr⟩ := hr
 rw [Nat.ble_eq] at hneed
 have hneed : sLen + n ≤ most := hneed
 obtain ⟨new', hl, hone, hlen, hrun⟩ := zmn c.sat hb hnew ⟨n, hn, Nat.le_refl _⟩
 have hlr := zn1 (P := P) hn hb w
 obtain ⟨z, hz1, hz2, hz3⟩ := zb9 hz
 have hzero : inf.zero = some z := by unfold zero? at hz1; rw [hi] at hz1; exact hz1
 have hisz : inf.size = size := by unfold size? at hs; rw [hi] at hs; simpa using hs
 have hzc : z.cells.size = size := by rw [zbl (by rw [hz2]; exact hz3), hz2]; simpa using hzl
 have hzs : ∀ cap, (Builtin.zeroCells z.cells (cap - (sLen + n))).size = (cap - (sLen + n)) * size := fun cap => by rw [size_zeroCells, hzc]
 -- the array grows
 have grow : ∀ (hp1 : Hp) (base' : Option Addr) (cap' : Nat) (old old' : List Value), Sat P G hp1 ρ w → ¬ ρ.ok hp1.next → LR ρ old old' → (∀ v ∈ old, oneC v = true) → old.length = sLen * size →
  (∀ w' : World, w'.heap = w.heap → (Builtin.firstCells size sLen (.slice base' sLen cap')).run P w' = .ok ⟨old'⟩ w') → ¬ sLen + n ≤ cap' →
  ∃ v' ρ' w', (Builtin.append_ #[st, xt] ty #[.slice base' sLen cap', b']).run P w = .ok v' w' ∧ VR ρ' (.slice (some ⟨hp1.next, 0, none⟩) (sLen + n) big) v' ∧
   Post P G hp1 (hp1.new (.cells (T.setList (old ++ new) .leaf 0) (old ++ new).length e)) ρ ρ' w w' := by
  intro hp1 base' cap' old old' hs1 hf1 hol ho1 hol2 hrun2 hnot
  obtain ⟨cap, w', h1, h2, h3, h4⟩ := zp9 (ty := ty) (base := base') hst hxt hi hisz hzero hlr hrun hrun2 hnot hneed hby
  obtain ⟨ρ', p1, p2⟩ := ydq (w0 := { w with drawn := w.drawn + 1 }) hs1 hf1 hs (hol.append hl) (fun v hv => (List.mem_append.1 hv).elim (ho1 v) (hone v)) (need := sLen + n) (cap := cap) (by rw [List.length_append, hol2, hlen, ← Nat.add_mul]) (hzs cap) h1 h2 rfl rfl rfl rfl
  refine ⟨_, ρ', w', h3, p2, ?_⟩
  rw [h4]
  have : (⟨old'⟩ ++ ⟨new'⟩ ++ Builtin.zeroCells z.cells (cap - (sLen + n)) : Array Value) = (old' ++ new').toArray ++ Builtin.zeroCells z.cells (cap - (sLen + n)) := by
   apply Array.ext'; simp
  rw [this]
  exact p1
 cases base with
 | none =>
  replace hr : zov hp e sLen sCap n (sLen + n) new = .ok v hp' := hr
  unfold zov at hr
  replace hr := zaw hr
  obtain ⟨h00, hr⟩ := hr
  rw [zd6, Bool.and_eq_true] at h00
  have e1 := Nat.eq_of_beq_eq_true h00.1
  have e2 := Nat.eq_of_beq_eq_true h00.2
  subst e1 e2
  cases ha
  cases hn0 : Nat.beq n 0 with
  | true =>
   rw [hn0] at hr
   cases hr
   have := Nat.eq_of_beq_eq_true hn0
   subst this
   exact zah c (zhd hst hxt hs hlr (hrun w rfl) (Nat.le_refl _) rfl) (.nilSlice _ _)
  | false =>
   rw [hn0, zbo, zcg] at hr
   cases hr
   have hn1 : ¬ 0 + n ≤ 0 := fun h => by
    have : n = 0 := by omega
    rw [this] at hn0; cases hn0
   obtain ⟨v', ρ', w', r1, r2, r3⟩ := grow hp none 0 [] [] c.sat (c.fresh _ (Nat.le_refl _) hN) .nil (fun v hv => by cases hv) (by simp) (fun w' _ => rfl) hn1
   exact ⟨_, v', ρ', w', za1 r1, .inl rfl, r2, r3⟩
 | some ad =>
  replace hr : zc0 ad .no (fun b o => pick (Nat.beq sCap big) (zhz hp e size b o sLen (sLen + n) new) (zfs hp e size b o sLen sCap (sLen + n) new)) = .ok v hp' := hr
  replace hr := zci hr
  obtain ⟨b0, o, rfl, hr⟩ := hr
  cases hcb : Nat.beq sCap big with
  | true =>
   rw [hcb] at hr
   replace hr : zhz hp e size b0 o sLen (sLen + n) new = .ok v hp' := hr
   unfold zhz at hr
   replace hr := zcb hr
   obtain ⟨ct, m, e2, hv, hr⟩ := hr
   replace hr := zaq hr
   obtain ⟨old, hold, hr⟩ := hr
   replace hr := zaw hr
   obtain ⟨hee, hr⟩ := hr
   have hee := Nat.eq_of_beq_eq_true hee
   subst hee
   rw [Hp.set_eq, zcg] at hr
   cases hr
   have hcb' := Nat.eq_of_beq_eq_true hcb
   have hold : za8 ct o (sLen * size) = some old := hold
   cases ha with
   | slice _ _ _ _ hok hc => exact absurd hcb' (Nat.ne_of_lt hc)
   | openS _ _ _ x c' hok g1 g2 g3 g4 =>
    obtain ⟨_, hblt, ca, fz, k1, k2, k3, k4, k5, k6⟩ := c.sat.vis b0 _ hv
    have hesz : ρ.esz b0 = size := by rw [k5, hs]; rfl
    rw [hesz] at g4
    have pd := Post.drop c.sat hv
    have hf1 : ¬ ρ.ok (hp.upd b0 none).next := c.fresh _ (Nat.le_refl _) hN
    obtain ⟨_, hread⟩ := zbn c.sat (b := b0) (.inl ⟨_, _, hv⟩)
    obtain ⟨old', q1, q2, q3, q4⟩ := zh3 (P := P) hread hold
    have hol2 : old.length = sLen * size := by rw [q1.length, q2]
    have hrun2 : ∀ w' : World, w'.heap = w.heap → (Builtin.firstCells size sLen (.slice (some ⟨ρ.blk b0, x, none⟩) sLen c')).run P w' = .ok ⟨old'⟩ w' := by
     intro w' hw
     by_cases h0 : 0 < sLen
     · rw [g3 h0]; exact q4 w' hw
     · have e0 : sLen = 0 := by omega
       have : old' = [] := List.eq_nil_of_length_eq_zero (by rw [q2, e0, Nat.zero_mul])
       rw [this, e0]
       show (loadCells _ (0 * size)).run P w' = _
       rw [Nat.zero_mul]; rfl
    by_cases hfit : sLen + n ≤ c'
    · -- in place
      have hroom : x + sLen * size + new'.length ≤ ca.size := by
       have h1 : (sLen + n) * size ≤ c' * size := Nat.mul_le_mul_right _ hfit
       rw [Nat.add_mul] at h1
       rw [← hl.length, hlen, k2]
       omega
      have hone' : ∀ v ∈ new', oneC v = true := fun v hm => by
       obtain ⟨i, hi, rfl⟩ := List.mem_iff_getElem.1 hm
       have hi' : i < new.length := by rw [hl.length]; exact hi
       obtain ⟨v', h2, h3⟩ := hl.get_some (List.getElem?_eq_getElem hi')
       rw [List.getElem?_eq_getElem hi] at h2
       cases h2
       rw [h3.one]
       exact hone _ (List.getElem_mem hi')
      obtain ⟨c2, w2, r1, r2, r3, r4, r5⟩ := zdc (P := P) (o := x + sLen * size) new' 0 ca w k1 (by omega) k4 hone'
      have hrunA : (Builtin.append_ #[st, xt] ty #[.slice (some ⟨ρ.blk b0, x, none⟩) sLen c', b']).run P w = .ok (.slice (some ⟨ρ.blk b0, x, none⟩) (sLen + n) c') w2 :=
       zhd (base := some ⟨ρ.blk b0, x, none⟩) hst hxt hs hlr (hrun w rfl) hfit (by show (storeCells (Addr.add _ _) new').run P w = _; rw [Addr.add_lit]; exact r1)
      have hnb : b0 < hp.next := c.sat.lt b0 _ (Hp.vis_some hv).2
      have le := ρ.add_le (ρ.blk b0) x size ca.size hf1
      have pn : Post P G (hp.upd b0 none) ((hp.upd b0 none).new (.cells (T.setList (old ++ new) .leaf 0) (old ++ new).length e2)) ρ (ρ.add hp.next (ρ.blk b0) x size ca.size) w w2 := by
       refine Post.newAt pd.sat hf1 (Nat.le_of_eq r5.size.symm) (by rw [r5.size]; exact hblt) (fun k _ hk => r5.other k hk) r5.os r5.tape r5.output (fun n o hn e => ?_) (.inr ⟨b0, hok, ?_, rfl⟩) ?_
       · have hn' := hn
         rw [Hp.vis_upd] at hn'
         by_cases hh : hp.no n = true
         · rw [if_pos hh] at hn'; cases hn'
         · rw [if_neg hh] at hn'
           by_cases eb : n = b0
           · rw [if_pos eb] at hn'; cases hn'
           · rw [if_neg eb] at hn'
             exact eb (c.sat.inj n b0 o _ (by rw [Hp.vis_eq, if_neg hh]; exact hn') hv e)
       · by_cases h : b0 < hp.lim
         · exact .inr (mem_addL.2 (.inr ⟨rfl, h⟩))
         · exact .inl ⟨Nat.le_of_not_lt h, hnb⟩
       · have f1 : (ρ.add hp.next (ρ.blk b0) x size ca.size).blk hp.next = ρ.blk b0 := if_pos rfl
         have f2 : (ρ.add hp.next (ρ.blk b0) x size ca.size).sh hp.next = x := if_pos rfl
         have f3 : (ρ.add hp.next (ρ.blk b0) x size ca.size).clen hp.next = ca.size := if_pos rfl
         have f4 : (ρ.add hp.next (ρ.blk b0) x size ca.size).esz hp.next = size := if_pos rfl
         show objSat P (ρ.add hp.next (ρ.blk b0) x size ca.size) w2 hp.next _
         refine ⟨c2, fz, by rw [f1]; exact r2, by rw [f3, r3], by rw [f2, r3, List.length_append, hol2]; rw [← hl.length] at hroom; omega, by rw [r3]; exact k4, by rw [f4, hs]; rfl, fun i v hi => ?_⟩
         have hi2 := zb6 _ i v hi
         rw [f2, r4]
         by_cases hlt : i < old.length
         · rw [List.getElem?_append_left hlt] at hi2
           rw [if_neg (by omega)]
           obtain ⟨_, hget⟩ := za6 ct _ _ _ hold
           have hpos : 0 < sLen := by
            rcases Nat.eq_zero_or_pos sLen with h | h
            · rw [hol2, h, Nat.zero_mul] at hlt; omega
            · exact h
           obtain ⟨h5, v', h6, h7⟩ := k6 (o + i) v (by rw [hget i (by omega)]; exact hi2)
           refine ⟨h5, v', ?_, h7.mono le⟩
           rw [g3 hpos, Nat.add_assoc]; exact h6
         · rw [List.getElem?_append_right (by omega)] at hi2
           have hilt : i - old.length < new.length := (List.getElem?_eq_some_iff.1 hi2).1
           rw [if_pos (by rw [← hl.length]; omega)]
           obtain ⟨v', h6, h7⟩ := hl.get_some hi2
           refine ⟨hone v (List.mem_of_getElem? hi2), v', ?_, h7.mono le⟩
           rw [show x + i - (x + sLen * size + 0) = i - old.length by omega]; exact h6
      refine ⟨_, _, _, w2, za1 hrunA, .inl rfl, ?_, pd.trans pn⟩
      have f1 : (ρ.add hp.next (ρ.blk b0) x size ca.size).blk hp.next = ρ.blk b0 := if_pos rfl
      have f2 : (ρ.add hp.next (ρ.blk b0) x size ca.size).sh hp.next = x := if_pos rfl
      have f3 : (ρ.add hp.next (ρ.blk b0) x size ca.size).clen hp.next = ca.size := if_pos rfl
      have f4 : (ρ.add hp.next (ρ.blk b0) x size ca.size).esz hp.next = size := if_pos rfl
      have := VR.openS (ρ := ρ.add hp.next (ρ.blk b0) x size ca.size) hp.next 0 (sLen + n) x c' (.inl rfl) hfit g2 (fun _ => by rw [f2]; rfl) (by rw [f3, f4, k2]; exact g4)
      rw [f1] at this
      exact this
    · obtain ⟨v', ρ', w', r1, r2, r3⟩ := grow (hp.upd b0 none) (some ⟨ρ.blk b0, x, none⟩) c' old old' pd.sat hf1 q1 q3 hol2 hrun2 hfit
      exact ⟨_, v', ρ', w', za1 r1, .inl rfl, r2, pd.trans r3⟩
  | false =>
   rw [hcb] at hr
   replace hr : zfs hp e size b0 o sLen sCap (sLen + n) new = .ok v hp' := hr
   unfold zfs at hr
   cases ha with
   | openS => simp at hcb
   | slice _ _ _ _ hok hc =>
    cases hfit : Nat.ble (sLen + n) sCap with
    | true =>
     rw [hfit, za9, zar] at hr
     rw [Nat.ble_eq] at hfit
     unfold zeb at hr
     replace hr := zcb hr
     obtain ⟨ct, m, e2, hv, hr⟩ := hr
     replace hr := zaw hr
     obtain ⟨hle, hr⟩ := hr
     rw [Nat.ble_eq] at hle
     rw [T.putList_eq, Hp.set_eq] at hr
     cases hr
     obtain ⟨w', r1, r2⟩ := zcy c.sat hv hl hone hle
     refine ⟨_, _, ρ, w', za1 (zhd (base := some ⟨ρ.blk b0, ρ.sh b0 + o, none⟩) hst hxt hs hlr (hrun w rfl) hfit ?_), .inl rfl, .slice b0 o _ _ hok hc, r2⟩
     show (storeCells (Addr.add _ _) new').run P w = _
     rw [Addr.add_lit, Nat.add_assoc]; exact r1
    | false =>
     rw [hfit, zbo] at hr
     replace hr := zcz hr
     obtain ⟨ct, hv, hr⟩ := hr
     replace hr := zaq hr
     obtain ⟨old, hold, hr⟩ := hr
     rw [zcg] at hr
     cases hr
     obtain ⟨_, hread⟩ := zbn c.sat hv
     obtain ⟨old', q1, q2, q3, q4⟩ := zh3 (P := P) hread hold
     have hnot : ¬ sLen + n ≤ sCap := fun h => by rw [← Nat.ble_eq] at h; rw [h] at hfit; cases hfit
     obtain ⟨v', ρ', w', r1, r2, r3⟩ := grow hp (some ⟨ρ.blk b0, ρ.sh b0 + o, none⟩) sCap old old' c.sat (c.fresh _ (Nat.le_refl _) hN) q1 q3 (by rw [q1.length, q2]; rfl) q4 hnot
     exact ⟨_, v', ρ', w', za1 r1, .inl rfl, r2, r3⟩
end Go.Proofs.YtelanmknimapoaaGreatDoor.Sx
/- An executor of closed runs: what its operations say of a world (6). -/
namespace Go.Proofs.YtelanmknimapoaaGreatDoor.Sx
open Go
variable {P : Program} {G : Env}
/-! Parts laid over cells. -/
theorem zn3 (off : Nat) : ∀ (vs : List Value) (i : Nat) (c : Array Value),
 ((vs.zipIdx i).foldl (fun (cs : Array Value) (x : Value × Nat) => cs.setIfInBounds (off + x.2) x.1) c).size = c.size ∧
 ∀ k, ((vs.zipIdx i).foldl (fun (cs : Array Value) (x : Value × Nat) => cs.setIfInBounds (off + x.2) x.1) c)[k]? = if off + i ≤ k ∧ k < off + i + vs.length ∧ k < c.size then vs[k - (off + i)]? else c[k]?
 | [], i, c => ⟨rfl, fun k => by rw [if_neg (by simp; omega)]; rfl⟩
 | v :: vs, i, c => by
  obtain ⟨h1, h2⟩ := zn3 off vs (i + 1) (c.setIfInBounds (off + i) v)
  simp only [List.zipIdx_cons, List.foldl_cons]
  refine ⟨by rw [h1]; simp, fun k => ?_⟩
  rw [h2]
  simp only [List.length_cons, Array.size_setIfInBounds, Array.getElem?_setIfInBounds]
  by_cases e : k = off + i
  · subst e
    by_cases hc : off + i < c.size
    · rw [if_neg (by omega), if_pos rfl, if_pos hc, if_pos (by omega)]; simp
    · rw [if_neg (by omega), if_pos rfl, if_neg hc, if_neg (by omega)]
      exact (Array.getElem?_eq_none (by omega)).symm
  · rw [if_neg (Ne.symm e)]
    by_cases hh : off + i ≤ k ∧ k < off + i + (vs.length + 1) ∧ k < c.size
    · rw [if_pos (by omega), if_pos hh]
      obtain ⟨d, rfl⟩ : ∃ d, k = off + (i + 1) + d := ⟨k - (off + (i + 1)), by omega⟩
      rw [show off + (i + 1) + d - (off + (i + 1)) = d by omega, show off + (i + 1) + d - (off + i) = d + 1 by omega]; simp
    · rw [if_neg (by omega), if_neg hh]
theorem zn5 {place : Nat → Option (Nat × Nat)} {c : Array Value} {i off size : Nat} {v : Value} {rest : List (Nat × Value)} (hp : place i = some (off, size)) (hv : v.cells.size = size) (hfit : off + size ≤ c.size) :
 ∃ c1 : Array Value, Instr.fill place c ((i, v) :: rest) = Instr.fill place c1 rest ∧ c1.size = c.size ∧ ∀ k, c1[k]? = if off ≤ k ∧ k < off + size then v.cells.toList[k - off]? else c[k]? := by
 obtain ⟨h1, h2⟩ := zn3 off v.cells.toList 0 c
 refine ⟨_, ?_, h1, fun k => ?_⟩
 · show (match place i with | none => none | some (off, size) => _) = _
   rw [hp]
   show (if (v.cells.size ≠ size || decide (off + v.cells.size > c.size)) = true then none else Instr.fill place _ rest) = _
   have : (decide (v.cells.size ≠ size) || decide (off + v.cells.size > c.size)) = false := by
    rw [hv]; simp; omega
   rw [if_neg (by rw [this]; simp)]
   congr 1
   rw [← Array.foldl_toList, Array.toList_zipIdx]
 · rw [h2]
   simp only [Nat.add_zero, Array.length_toList, hv]
   by_cases hh : off ≤ k ∧ k < off + size
   · rw [if_pos hh, if_pos (by omega)]
   · rw [if_neg hh, if_neg (by omega)]
theorem zsy {β : Type} (x : Operand) : ∃ f, zyt (β := β) x = .mk f ∧ ∀ tm k, f tm k = k [evA tm x] := by
 cases x with
 | tmp t =>
  obtain ⟨g, hg, hs⟩ := T.getPath_spec (α := Value) (t + 1) t (Nat.lt_succ_self t)
  refine ⟨fun tm k => zaf (g tm) (k [undef]) fun v => k [v], ?_, fun tm k => ?_⟩
  · have : zyt (β := β) (.tmp t) = T.GBx.rec (motive := fun _ => LBx β) (fun g => .mk fun tm k => zaf (g tm) (k [undef]) fun v => k [v]) (T.getPath (α := Value) (T.pathF (t + 1) t)) := rfl
    rw [this, hg]
  · show zaf (g tm) (k [undef]) (fun v => k [v]) = k [zaf (tm.get t) undef fun v => v]
    rw [hs]
    cases tm.get t <;> rfl
 | const v => exact ⟨_, rfl, fun _ _ => rfl⟩
 | global g => exact ⟨_, rfl, fun _ _ => rfl⟩
 | func f => exact ⟨_, rfl, fun _ _ => rfl⟩
theorem zbv {β : Type} : ∀ l : List Operand, ∃ h, zsx (β := β) l = .mk h ∧ ∀ tm k, h tm k = k (l.map (evA tm))
 | [] => ⟨_, rfl, fun _ _ => rfl⟩
 | x :: l => by
  obtain ⟨h, h1, h2⟩ := zbv (β := β) l
  obtain ⟨g, g1, g2⟩ := zsy (β := β) x
  refine ⟨fun tm k => g tm fun l => h tm fun vs => yaa k l vs, ?_, fun tm k => ?_⟩
  · have : zsx (β := β) (x :: l) = LBx.rec (motive := fun _ => LBx β) (fun h => LBx.rec (motive := fun _ => LBx β) (fun g => .mk fun tm k => g tm fun l => h tm fun vs => yaa k l vs) (zyt x)) (zsx l) := rfl
    rw [this, h1, g1]
  · show g tm (fun l => h tm fun vs => yaa k l vs) = _
    rw [g2, h2]; rfl
theorem zns {ρ : Rho} {tm : T Value} {ev : Operand → Value} {l : List Operand} (h : ∀ x ∈ l, VR ρ (evA tm x) (ev x)) : LR ρ (l.map (evA tm)) (l.map ev) := LR.map _ h
theorem zw2 {o : Oper} {fn : Fn} {a b : Array Operand} (ho : o.op = .makeFunc fn a b) {f : T Value → Hp → R} (h : zw3 fn a.toList b.toList = .op f) : BxOk P G o f := by
 have ha : ∀ x ∈ a.toList, x ∈ o.op.operands := by intro x hx; rw [ho]; simp [Op.operands]; left; simpa using hx
 have hb : ∀ x ∈ b.toList, x ∈ o.op.operands := by intro x hx; rw [ho]; simp [Op.operands]; right; simpa using hx
 have he : ∀ ev, execOp ev o = valN (Instr.makeFunc fn (a.map ev) (b.map ev)) := fun ev => by unfold execOp; rw [ho]; rfl
 obtain ⟨g1, e1, s1⟩ := zbv (β := R) a.toList
 obtain ⟨g2, e2, s2⟩ := zbv (β := R) b.toList
 have hny : zpf fn = true := by
  cases fn <;> first | rfl | cases h
 have hf : f = fun tm hp => g1 tm fun a => g2 tm fun b => .ok (.func fn ⟨a⟩ ⟨b⟩) hp := by
  unfold zw3 at h
  cases fn <;> first
   | (simp only [e1, e2] at h; cases h; rfl)
   | cases h
 subst hf
 intro tm hp v hp' hr ρ w N ev c hev hN
 replace hr : g1 tm (fun a => g2 tm fun b => .ok (.func fn ⟨a⟩ ⟨b⟩) hp) = .ok v hp' := hr
 rw [s1, s2] at hr
 cases hr
 rw [he]
 refine zah c (v' := .func fn (a.map ev) (b.map ev)) rfl ?_
 have := VR.func (ρ := ρ) fn (a.toList.map (evA tm)) (b.toList.map (evA tm)) (a.toList.map ev) (b.toList.map ev) hny (zns fun x hx => hev x (ha x hx)) (zns fun x hx => hev x (hb x hx))
 have ea : (⟨a.toList.map ev⟩ : Array Value) = a.map ev := by apply Array.ext'; simp
 have eb : (⟨b.toList.map ev⟩ : Array Value) = b.map ev := by apply Array.ext'; simp
 rw [ea, eb] at this
 exact this
theorem zz9 {s d : TypeId} {k0 k : IntKind} (hs : P.underlying s = some (.int k0)) (hd : P.underlying d = some (.int k)) : Ok1 P G (yd9 k (zit k) k.signed) (fun x => valN (convert s d x)) := by
 intro a hp v hp' h ρ w N a' c ha hN
 unfold yd9 at h
 replace h := zf4 h
 obtain ⟨j, n, rfl, h⟩ := h
 obtain ⟨rfl, rfl⟩ := ygn h
 cases ha
 rw [zql]
 refine zah c ?_ (.int _ _)
 unfold convert
 rw [Sem.run_bind, run_underlying hs]
 simp only [Result.andThen_ok]
 rw [Sem.run_bind, run_underlying hd]
 rfl
theorem zjh {e : TypeId} (h : isByte P e = true) : P.underlying e = some (.int .u8) ∧ size? P e = some 1 := by
 unfold isByte at h
 split at h
 · rename_i h1 h2; exact ⟨h1, h2⟩
 · cases h
theorem zsi {s d e : TypeId} (hs : P.underlying s = some .string) (hd : P.underlying d = some (.slice e)) (hb : isByte P e = true) : Ok1 P G (zoy e) (fun x => valN (convert s d x)) := by
 intro a hp v hp' h ρ w N a' c ha hN
 unfold zoy at h
 replace h := zez h
 obtain ⟨str, rfl, h⟩ := h
 replace h := zaw h
 obtain ⟨hle, h⟩ := h
 rw [Nat.ble_eq] at hle
 rw [zju, zcg, zar] at h
 cases h
 cases ha
 obtain ⟨he, hsz⟩ := zjh hb
 have hf := c.fresh hp.next (Nat.le_refl _) hN
 have hl : str.data.toList.length = str.size := by simp
 have hlen : (ofBytes str.data.toList).length = str.size := by simp [ofBytes]
 have hcap := grownCap_ge w str.size 0 e
 have hmost : str.size ≤ most := by rw [← hl]; exact hle
 have hmax := grownCap_le_maxLen w str.size 0 e (by unfold most at hmost; unfold maxLen; omega)
 have hcs : (Lib.bytesCells w e str).size = grownCap w str.size 0 e := by
  simp only [Lib.bytesCells, Array.size_append, Array.size_map, Array.size_replicate]
  have : str.data.size = str.size := rfl
  omega
 have le := ρ.add_le w.heap.size 0 1 (Lib.bytesCells w e str).size hf
 have e1 : (ρ.add hp.next w.heap.size 0 1 (Lib.bytesCells w e str).size).sh hp.next = 0 := if_pos rfl
 have e2 : (ρ.add hp.next w.heap.size 0 1 (Lib.bytesCells w e str).size).blk hp.next = w.heap.size := if_pos rfl
 have e3 : (ρ.add hp.next w.heap.size 0 1 (Lib.bytesCells w e str).size).esz hp.next = 1 := if_pos rfl
 have e4 : (ρ.add hp.next w.heap.size 0 1 (Lib.bytesCells w e str).size).clen hp.next = (Lib.bytesCells w e str).size := if_pos rfl
 have p : Post P G hp (hp.new (.cells (T.setList (ofBytes str.data.toList) .leaf 0) (ofBytes str.data.toList).length e)) ρ (ρ.add hp.next w.heap.size 0 1 (Lib.bytesCells w e str).size) w (Lib.bytesWorld w e str) := by
  refine Post.newAt c.sat hf (by rw [Lib.bytesWorld_size]; omega) (by rw [Lib.bytesWorld_size]; omega) (fun k hk _ => Lib.bytesWorld_at_old w e str k hk) rfl rfl rfl
   (fun n o hn => Nat.ne_of_lt (c.sat.vis n o hn).2.1) (.inl (Nat.le_refl _)) ?_
  refine ⟨Lib.bytesCells w e str, (_, _), by rw [e2]; exact Lib.bytesWorld_at_new w e str, e4.symm, by rw [e1, hcs, hlen]; omega, fun i hi h => by omega, by rw [e3, hsz]; rfl, fun i u hi => ?_⟩
  have h := zb6 _ i u hi
  have hi' : i < str.data.toList.length := by
   have := (List.getElem?_eq_some_iff.1 h).1
   rw [hlen, ← hl] at this; exact this
  have hb' : (ofBytes str.data.toList)[i]? = some (.int .u8 (.ofNat (str.data.toList[i]).toNat)) := by rw [ofBytes, List.getElem?_map, List.getElem?_eq_getElem hi']; rfl
  rw [hb'] at h
  cases h
  refine ⟨rfl, .int .u8 (.ofNat (str.data.toList[i]).toNat), ?_, .int _ _⟩
  rw [e1, Nat.zero_add]
  unfold Lib.bytesCells
  rw [Array.getElem?_append_left (by simpa using hi')]
  have hi2 : i < str.data.size := by simpa using hi'
  rw [Array.getElem?_map, Array.getElem?_eq_getElem hi2]
  rfl
 have hv := VR.openS (ρ := ρ.add hp.next w.heap.size 0 1 (Lib.bytesCells w e str).size) hp.next 0 str.size 0 (grownCap w str.size 0 e) (.inl rfl) hcap (by unfold maxLen at hmax; unfold big; omega) (fun _ => by rw [e1]) (by rw [e3, e4, hcs]; omega)
 rw [e2] at hv
 rw [← hlen] at hv
 refine ⟨_, _, _, _, za1 (Lib.run_convert_string_bytes (P := P) w s d e str hs hd he), .inl rfl, ?_, p⟩
 rw [← hlen]
 exact hv
theorem zhw : ∀ {l : List Value} {bs : List UInt8}, zj3 l = some bs → ∃ ns : List Int, l = ns.map (Value.int .u8) ∧ bs = ns.map fun n => UInt8.ofNat n.toNat
 | [], bs, h => by cases h; exact ⟨[], rfl, rfl⟩
 | v :: l, bs, h => by
  unfold zj3 at h
  split at h
  · cases ‹_ = []›
  · rename_i n vs heq
    cases heq
    cases hr : zj3 l with
    | none => rw [hr] at h; cases h
    | some r =>
     rw [hr] at h
     cases h
     obtain ⟨ns, rfl, rfl⟩ := zhw hr
     exact ⟨n :: ns, rfl, rfl⟩
  · cases h
theorem zv4 {ρ : Rho} : ∀ {ns : List Int} {l' : List Value}, LR ρ (ns.map (Value.int .u8)) l' → l' = ns.map (Value.int .u8)
 | [], _, h => by cases h; rfl
 | n :: ns, _, h => by
  cases h with
  | cons _ v' _ l' hv hl =>
   cases hv
   rw [zv4 hl]; rfl
theorem zlf (f : Int → UInt8) : ∀ (ns : List Int) (s : ByteArray), ns.foldl (fun r n => r.push (f n)) s = ⟨⟨s.data.toList ++ ns.map f⟩⟩
 | [], s => by simp
 | n :: ns, s => by
  rw [List.foldl_cons, zlf f ns]
  simp [ByteArray.push]
theorem zn2 {s d e : TypeId} (hs : P.underlying s = some (.slice e)) (hd : P.underlying d = some .string) (hb : isByte P e = true) : Ok1 P G zjn (fun x => valN (convert s d x)) := by
 intro a hp v hp' h ρ w N a' c ha hN
 unfold zjn at h
 replace h := zbw h
 obtain ⟨base, len, cap, rfl, h⟩ := h
 replace h := zaq h
 obtain ⟨l, hl, h⟩ := h
 replace h := zaq h
 obtain ⟨bs, hbs, h⟩ := h
 rw [zjy] at h
 cases h
 obtain ⟨he, _⟩ := zjh hb
 obtain ⟨l', h1, _, _, hrun⟩ := zmn c.sat ha hl ⟨len, rfl, Nat.le_refl _⟩
 obtain ⟨ns, rfl, rfl⟩ := zhw hbs
 have := zv4 h1
 subst this
 have hstr : ns.foldl (fun r n => r.push (UInt8.ofNat n.toNat)) ByteArray.empty = ⟨⟨ns.map fun n => UInt8.ofNat n.toNat⟩⟩ := by rw [zlf]; rfl
 have go : ∀ (x : Addr) (cp : Nat), (∀ w' : World, w'.heap = w.heap → (Builtin.firstCells 1 len (.slice (some x) len cp)).run P w' = .ok ⟨ns.map (Value.int .u8)⟩ w') → (convert s d (.slice (some x) len cp)).run P w = .ok (.string ⟨⟨ns.map fun n => UInt8.ofNat n.toNat⟩⟩) w := by
  intro x cp hrun
  have hr := hrun w rfl
  replace hr : (loadCells x (len * 1)).run P w = .ok (ns.map (Value.int .u8)).toArray w := hr
  rw [Nat.mul_one] at hr
  rw [run_convert_bytes_string w s d e _ len cp hs he hd, run_bytesToString w x len cp ns hr, hstr]
 cases ha with
 | nilSlice =>
  have h0 : ns = [] := by
   replace hl : pick (Nat.beq len 0) (some []) none = some (ns.map (Value.int .u8)) := hl
   cases hb0 : Nat.beq len 0 with
   | false => rw [hb0] at hl; cases hl
   | true =>
    rw [hb0] at hl
    replace hl := Option.some.inj hl
    exact List.map_eq_nil_iff.1 hl.symm
  subst h0
  refine zah c ?_ (.string _)
  rw [run_convert_bytes_string w s d e _ len cap hs he hd]
  rfl
 | slice b o _ _ hok hc => exact zah c (go _ _ hrun) (.string _)
 | openS b o _ x cp hok g1 g2 g3 g4 => exact zah c (go _ _ hrun) (.string _)
theorem zom {o : Oper} {s d : TypeId} {x : Operand} (ho : o.op = .convert s d x) {f : T Value → Hp → R} (h : zj7 P o s d x = .op f) : BxOk P G o f := by
 have hsel : ∀ cs b, o.op ≠ .select cs b := by rw [ho]; intro cs b e; cases e
 have hx : x ∈ o.op.operands := by rw [ho]; simp [Op.operands]
 have he : ∀ ev, execOp ev o = valN (convert s d (ev x)) := fun ev => by unfold execOp; rw [ho]; rfl
 unfold zj7 at h
 split at h
 · rename_i hs hd
   rw [zar, zd3] at h
   exact bx1p (S := fun a => valN (convert s d a)) hsel h (zz9 hs hd) hx he
 · rename_i e hs hd
   cases hb : isByte P e with
   | true => rw [hb, cond_true] at h; exact bx1 (S := fun a => valN (convert s d a)) h (zsi hs hd hb) hx he
   | false => rw [hb, cond_false] at h; unfold zbc at h; cases h; exact zbq hsel
 · rename_i e hs hd
   cases hb : isByte P e with
   | true => rw [hb, cond_true] at h; exact bx1 (S := fun a => valN (convert s d a)) h (zn2 hs hd hb) hx he
   | false => rw [hb, cond_false] at h; unfold zbc at h; cases h; exact zbq hsel
 · unfold zbc at h; cases h; exact zbq hsel
/-! New rows of zeros. -/
def zig (z : List Value) : Nat → Nat → T Value → T Value
 | 0, _, t => t
 | n + 1, o, t => zig z n (o + z.length) (T.setList z t o)
theorem zlm {β : Type} (z : List Value) : ∀ (n o : Nat) (t : T Value) (k : T Value → β), zeros z n o t k = k (zig z n o t)
 | 0, o, t, k => rfl
 | n + 1, o, t, k => by
  show T.putList z t o (fun t => fNat (o + z.length) fun o => zeros z n o t k) = _
  rw [T.putList_eq, zar, zlm z n]; rfl
theorem zha (z : List Value) : ∀ (n o : Nat) (t : T Value) (i : Nat), (zig z n o t).get i = if o ≤ i ∧ i < o + n * z.length then z[(i - o) % z.length]? else t.get i
 | 0, o, t, i => by rw [if_neg (by omega)]; rfl
 | n + 1, o, t, i => by
  show (zig z n (o + z.length) (T.setList z t o)).get i = _
  rw [zha z n, T.get_setList, Nat.add_mul, Nat.one_mul]
  by_cases h1 : o ≤ i ∧ i < o + z.length
  · rw [if_neg (by omega), if_pos h1, if_pos (by omega), Nat.mod_eq_of_lt (by omega)]
  · by_cases h2 : o + z.length ≤ i ∧ i < o + z.length + n * z.length
    · rw [if_pos h2, if_pos (by omega)]
      congr 1
      rw [show i - o = i - (o + z.length) + z.length by omega, Nat.add_mod_right]
    · rw [if_neg h2, if_neg h1, if_neg (by omega)]
end Go.Proofs.YtelanmknimapoaaGreatDoor.Sx
/- An executor of closed runs: what its operations say of a world (7). -/
namespace Go.Proofs.YtelanmknimapoaaGreatDoor.Sx
open Go
variable {P : Program} {G : Env}
theorem zrn {z : Value} {l : List Value} (hz : z.cells = ⟨l⟩) {N i : Nat} (hi : i < N) (h0 : 0 < l.length) : (madeCells z.cells N)[i]? = l[i % l.length]? := by
 unfold madeCells
 rw [hz]
 have : i % l.length < l.length := Nat.mod_lt _ h0
 simp [hi, this]
theorem znu {t e : TypeId} {size : Nat} {zl : List Value} {inf : TypeInfo} (hu : P.underlying t = some (.slice e)) (hs : size? P e = some size) (hz : zgk P e = some zl) (hi : P.info? e = some inf) (hzl : zl.length = size) (h0 : 1 ≤ size) :
 Ok2 P G (zgp e size zl inf.bytes) (fun l c => valN (Instr.makeSlice t l c)) := by
 intro a b hp v hp' hr ρ w N a' b' c ha hb hN
 unfold zgp at hr
 replace hr := zc3 hr
 obtain ⟨k1, l, rfl, hr⟩ := hr
 replace hr := zc3 hr
 obtain ⟨k2, cp, rfl, hr⟩ := hr
 replace hr := zaw hr
 obtain ⟨hb3, hr⟩ := hr
 simp only [zd6, Bool.and_eq_true, Nat.ble_eq] at hb3
 obtain ⟨hlc, hmost, hcm⟩ := hb3
 rw [zlm, zar, zec] at hr
 cases hr
 cases ha; cases hb
 obtain ⟨z, hz1, hz2, hz3⟩ := zb9 hz
 have hzero : inf.zero = some z := by unfold zero? at hz1; rw [hi] at hz1; exact hz1
 have hisz : inf.size = size := by unfold size? at hs; rw [hi] at hs; simpa using hs
 have hzc : z.cells = ⟨zl⟩ := by rw [zbl (by rw [hz2]; exact hz3), hz2]
 have hmost : cp * (inf.bytes + size) ≤ most := hmost
 have hbytes : inf.bytes * cp ≤ most := by
  have : cp * inf.bytes ≤ cp * (inf.bytes + size) := Nat.mul_le_mul_left _ (Nat.le_add_right _ _)
  rw [Nat.mul_comm]; omega
 have hr := run_make (P := P) w t e inf z hu hi hzero k1 k2 (l : Int) (cp : Int) (Int.natCast_nonneg _) (Int.ofNat_le.2 hlc) (by
  have h : ((inf.bytes * cp : Nat) : Int) ≤ 281474976710656 := by unfold most at hbytes; omega
  rwa [Int.natCast_mul] at h) (by unfold most at hcm; omega)
 simp only [Int.toNat_natCast] at hr
 obtain ⟨ρ', r1, r2, r3, r4, r5, r6⟩ := zga (P := P) c.sat (c.fresh _ (Nat.le_refl _) hN) (zig zl cp 0 .leaf) (cp * size) e (madeCells z.cells (cp * inf.size)) (by rw [size_madeCells, hisz]; exact Nat.le_refl _) fun i u hu => by
  rw [zha] at hu
  by_cases hh : 0 ≤ i ∧ i < 0 + cp * zl.length
  · rw [if_pos hh] at hu
    have hu' : zl[i % zl.length]? = some u := by simpa using hu
    have hp1 := zcf hz3 u (List.mem_of_getElem? hu')
    exact ⟨zej hp1, u, by rw [hisz, zrn hzc (by rw [← hzl]; omega) (by omega)]; exact hu', zf3 hp1⟩
  · rw [if_neg hh] at hu; cases hu
 refine ⟨_, _, ρ', _, za1 (hr.trans rfl), .inl rfl, ?_, r1⟩
 have := VR.slice (ρ := ρ') hp.next 0 l cp r4 (by unfold most at hcm; unfold big; omega)
 rw [r2, r3] at this
 exact this
theorem zmw : ∀ {len : Nat} {ps : List (Nat × Operand)}, bnd len ps = true → ∀ x ∈ ps, x.1 < len
 | _, [], _, x, hx => by cases hx
 | len, (i, o) :: l, h, x, hx => by
  simp only [bnd] at h
  cases hb : Nat.blt i len with
  | false => rw [hb] at h; cases h
  | true =>
   rw [hb] at h
   rcases List.mem_cons.1 hx with rfl | hx
   · have : i + 1 ≤ len := by simpa [Nat.blt, Nat.ble_eq] using hb
     exact this
   · exact zmw h x hx
theorem zpt {ρ : Rho} {size len : Nat} (tm : T Value) (ev : Operand → Value) (h0 : 0 < size) : ∀ (ps : List (Nat × Operand)) (t : T Value) (c : Array Value) (k : T Value → R) (v : Value) (hp' : Hp),
 (∀ x ∈ ps, VR ρ (evA tm x.2) (ev x.2)) → (∀ x ∈ ps, x.1 < len) → c.size = len * size →
 (∀ i u, t.get i = some u → oneC u = true ∧ ∃ u', c[i]? = some u' ∧ VR ρ u u') →
 zt5 size .no (opd2 tm ps) t k = .ok v hp' →
 ∃ t' c', k t' = .ok v hp' ∧ Instr.fill (fun i => some (i * size, size)) c (ps.map fun x => (x.1, ev x.2)) = some c' ∧ c'.size = c.size ∧ (∀ i u, t'.get i = some u → oneC u = true ∧ ∃ u', c'[i]? = some u' ∧ VR ρ u u')
 | [], t, c, k, v, hp', _, _, _, ht, h => ⟨t, c, h, rfl, rfl, ht⟩
 | (i, x) :: ps, t, c, k, v, hp', hv, hb, hc, ht, h => by
  have h' : zel (evA tm x) .no (fun l => pick (Nat.beq l.length size) (T.putList l t (Nat.mul i size) fun t => zt5 size .no (opd2 tm ps) t k) .no) = .ok v hp' := h
  replace h' := zhk h'
  obtain ⟨hcell, h'⟩ := h'
  replace h' := zaw h'
  obtain ⟨hsz, h'⟩ := h'
  have hsz := Nat.eq_of_beq_eq_true hsz
  rw [T.putList_eq] at h'
  have hx := hv (i, x) (List.mem_cons_self ..)
  have hil := hb (i, x) (List.mem_cons_self ..)
  obtain ⟨hl, h1⟩ := zoi hx hcell
  have hfit : i * size + size ≤ c.size := by
   rw [hc]
   have : (i + 1) * size ≤ len * size := Nat.mul_le_mul_right _ hil
   rw [Nat.add_mul, Nat.one_mul] at this
   exact this
  have hvs : (ev x).cells.size = size := by rw [← hsz, hl.length]; simp
  obtain ⟨c1, e1, e2, e3⟩ := zn5 (place := fun i => some (i * size, size)) (c := c) (i := i) (v := ev x) (rest := ps.map fun x => (x.1, ev x.2)) rfl hvs hfit
  obtain ⟨t', c', g1, g2, g3, g4⟩ := zpt tm ev h0 ps (T.setList (cellsOf (evA tm x)) t (i * size)) c1 k v hp' (fun y hy => hv y (List.mem_cons_of_mem _ hy)) (fun y hy => hb y (List.mem_cons_of_mem _ hy)) (by rw [e2]; exact hc) (fun j u hu => by
   rw [T.get_setList] at hu
   rw [e3]
   by_cases hh : i * size ≤ j ∧ j < i * size + (cellsOf (evA tm x)).length
   · rw [if_pos hh] at hu
     rw [if_pos (by omega)]
     obtain ⟨u', h5, h6⟩ := hl.get_some hu
     exact ⟨h1 u (List.mem_of_getElem? hu), u', h5, h6⟩
   · rw [if_neg hh] at hu
     rw [if_neg (by omega)]
     exact ht j u hu) h'
  exact ⟨t', c', g1, by rw [List.map_cons, e1]; exact g2, by rw [g3, e2], g4⟩
theorem zj8 {o : Oper} {t : TypeId} {len : Nat} {ps : Array (Nat × Operand)} (ho : o.op = .buildSlice t len ps) {f : T Value → Hp → R} (h : zeq P t len ps.toList = .op f) : BxOk P G o f := by
 have hps : ∀ x ∈ ps.toList, x.2 ∈ o.op.operands := by
  intro x hx
  rw [ho]
  simp [Op.operands]
  exact ⟨x.1, by simpa using hx⟩
 have he : ∀ ev, execOp ev o = valN (Instr.buildSlice t len (ps.map fun (i, x) => (i, ev x))) := fun ev => by unfold execOp; rw [ho]; rfl
 unfold zeq at h
 split at h <;> try (simp only [reduceCtorEq] at h)
 rename_i e hu
 split at h <;> try (simp only [reduceCtorEq] at h)
 rename_i size zl hs hz
 rw [zlm, zar] at h
 cases hc : (Nat.beq zl.length size && bnd len ps.toList && Nat.ble (Nat.mul len size) most && Nat.ble 1 size) with
 | false => rw [hc] at h; cases h
 | true =>
  rw [hc] at h
  cases h
  simp only [Bool.and_eq_true, Nat.ble_eq] at hc
  obtain ⟨⟨⟨h1, h2⟩, h3⟩, h4⟩ := hc
  have hzl := Nat.eq_of_beq_eq_true h1
  have h3 : len * size ≤ most := h3
  intro tm hp v hp' hr ρ w N ev c hev hN
  rw [he]
  replace hr : zgw e size (len * size) (zig zl len 0 .leaf) len (opd2 tm ps.toList) hp = .ok v hp' := hr
  unfold zgw at hr
  rw [zjw] at hr
  obtain ⟨z, hz1, hz2, hz3⟩ := zb9 hz
  obtain ⟨inf, hi, hisz⟩ := zhp hs
  have hzero : inf.zero = some z := by unfold zero? at hz1; rw [hi] at hz1; exact hz1
  have hzc : z.cells = ⟨zl⟩ := by rw [zbl (by rw [hz2]; exact hz3), hz2]
  obtain ⟨t', c', g1, g2, g3, g4⟩ := zpt (ρ := ρ) (len := len) tm ev (by omega) ps.toList (zig zl len 0 .leaf) (madeCells z.cells (len * size)) _ v hp' (fun x hx => hev x.2 (hps x hx)) (zmw h2) (size_madeCells _ _) (fun i u hu => by
   rw [zha] at hu
   by_cases hh : 0 ≤ i ∧ i < 0 + len * zl.length
   · rw [if_pos hh] at hu
     have hu' : zl[i % zl.length]? = some u := by simpa using hu
     have hp1 := zcf hz3 u (List.mem_of_getElem? hu')
     exact ⟨zej hp1, u, by rw [zrn hzc (by rw [← hzl]; omega) (by omega)]; exact hu', zf3 hp1⟩
   · rw [if_neg hh] at hu; cases hu) hr
  rw [zec] at g1
  cases g1
  rw [size_madeCells] at g3
  obtain ⟨ρ', r1, r2, r3, r4, r5, r6⟩ := zga (P := P) c.sat (c.fresh _ (Nat.le_refl _) hN) t' (len * size) e c' (by rw [g3]; exact Nat.le_refl _) g4
  have hlen : len < big := by
   have : len * 1 ≤ len * size := Nat.mul_le_mul_left _ h4
   unfold most at h3; unfold big; omega
  have hv := VR.slice (ρ := ρ') hp.next 0 len len r4 hlen
  rw [r2, r3] at hv
  refine ⟨_, _, ρ', _, za1 ?_, .inl rfl, hv, r1⟩
  have hfill : Instr.fill (fun i => some (i * inf.size, inf.size)) ((Array.range (len * inf.size)).map (z.cells[· % z.cells.size]!)) (ps.map fun (i, x) => (i, ev x)).toList = some c' := by
   rw [hisz]
   have : (ps.map fun (x : Nat × Operand) => (x.1, ev x.2)).toList = ps.toList.map fun x => (x.1, ev x.2) := by simp
   rw [this]; exact g2
  by_cases hpos : len * inf.size = 0
  · have hl0 : len = 0 := by
     rcases Nat.mul_eq_zero.1 hpos with h | h
     · exact h
     · omega
    subst hl0
    have hps0 : ps = #[] := by
     cases hp0 : ps.toList with
     | nil => apply Array.ext'; simpa using hp0
     | cons x l => have := zmw h2 x (by rw [hp0]; exact List.mem_cons_self ..); omega
    subst hps0
    have hc0 : c' = #[] := by
     rw [Nat.zero_mul] at g3
     exact Array.eq_empty_of_size_eq_zero g3
    subst hc0
    unfold Instr.buildSlice
    rw [Sem.run_bind, run_underlying hu]
    simp only [Result.andThen_ok]
    rw [Sem.run_bind, za2 hs]
    simp only [Result.andThen_ok, Nat.zero_mul]
    rw [if_neg (by omega), if_pos trivial, Sem.run_bind, Sem.run_pure]
    simp only [Result.andThen_ok]
    have e1 : (Array.map (fun x => (#[] : Array Value)[x % (#[] : Array Value).size]!) (Array.range 0)) = #[] := by simp
    have e2 : (Array.map (fun (x : Nat × Operand) => (x.1, ev x.2)) #[]).toList = [] := by simp
    rw [e1, e2]
    rfl
  · exact (run_buildSlice (P := P) w t e len _ c' inf z hu hi hzero (by rw [hisz]; unfold most at h3; omega) hpos hfill).trans rfl
end Go.Proofs.YtelanmknimapoaaGreatDoor.Sx
/- An executor of closed runs: what its operations say of a world (8). -/
namespace Go.Proofs.YtelanmknimapoaaGreatDoor.Sx
open Go
variable {P : Program} {G : Env}
theorem zqa (l : List Value) : ∀ (cs : List Value) (k : List Value → R), appK cs l k = k (cs ++ l)
 | [], k => rfl
 | v :: cs, k => by
  show appK cs l (fun r => k (v :: r)) = _
  rw [zqa l cs]; rfl
theorem zhb {ρ : Rho} {z : List Value} (hz : all1 z = true) (tm : T Value) (ev : Operand → Value) (place : Nat → Option (Nat × Nat)) : ∀ (fs : List Field) (j off : Nat) (ps : List (Nat × Operand)) (h : T Value → (List Value → R) → R),
 zb7 P z fs j off ps = some (.mk h) →
 (∀ (m : Nat) (fd : Field) (n : Nat), fs[m]? = some fd → size? P fd.type = some n → place (j + m) = some (fd.offset, n)) →
 (∀ x ∈ ps, VR ρ (evA tm x.2) (ev x.2)) → ∀ (k : List Value → R) (v : Value) (hp' : Hp), h tm k = .ok v hp' →
 off ≤ z.length ∧ ∃ L, k L = .ok v hp' ∧ (∀ u ∈ L, oneC u = true) ∧ ∀ c : Array Value, c.size = z.length → (∀ i, off ≤ i → c[i]? = z[i]?) →
  ∃ (c' : Array Value) (L' : List Value), Instr.fill place c (ps.map fun x => (x.1, ev x.2)) = some c' ∧ c'.size = c.size ∧ LR ρ L L' ∧ L.length = z.length - off ∧ (∀ i, c'[i]? = if i < off then c[i]? else L'[i - off]?)
 | [], j, off, ps, h, hf, hpl, hv, k, v, hp', hr => by
  cases ps with
  | cons x l => cases hf
  | nil =>
   have hf' : pick (Nat.beq off z.length) (some (LBx.mk fun _ k => k [])) none = some (.mk h) := hf
   cases hb : Nat.beq off z.length with
   | false => rw [hb] at hf'; cases hf'
   | true =>
    rw [hb] at hf'
    cases hf'
    have hoff := Nat.eq_of_beq_eq_true hb
    refine ⟨Nat.le_of_eq hoff, [], hr, (fun u hu => by cases hu), fun c hc hcz => ⟨c, [], rfl, rfl, .nil, by simp [hoff], fun i => ?_⟩⟩
    by_cases hi : i < off
    · rw [if_pos hi]
    · rw [if_neg hi]
      rw [Array.getElem?_eq_none (by omega)]; simp
 | fd :: fs, j, off, ps, h, hf, hpl, hv, k, v, hp', hr => by
  have hf' : pick (Nat.beq fd.offset off)
   (match size? P fd.type with
   | some n => match ps with
    | (i, x) :: ps' => pick (Nat.beq i j)
     (zaf (zb7 P z fs (j + 1) (off + n) ps') none fun h => zg1 (zc5 P fd.type) x h)
     (zaf (zb7 P z fs (j + 1) (off + n) ((i, x) :: ps')) none fun h => zhe ((z.drop off).take n) h)
    | [] => zaf (zb7 P z fs (j + 1) (off + n) []) none fun h => zhe ((z.drop off).take n) h
   | none => none) none = some (.mk h) := by cases ps <;> exact hf
  cases hb : Nat.beq fd.offset off with
  | false => rw [hb] at hf'; cases hf'
  | true =>
   rw [hb] at hf'
   have hoff := Nat.eq_of_beq_eq_true hb
   cases hs : size? P fd.type with
   | none => rw [hs] at hf'; cases hf'
   | some n =>
    rw [hs] at hf'
    have hpl' : ∀ (m : Nat) (fd : Field) (n : Nat), fs[m]? = some fd → size? P fd.type = some n → place (j + 1 + m) = some (fd.offset, n) := fun m fd' n' h1 h2 => by
     have := hpl (m + 1) fd' n' (by simpa using h1) h2
     rwa [show j + (m + 1) = j + 1 + m by omega] at this
    -- cells of the zero
    have zeroCase : ∀ ps' : List (Nat × Operand), (∀ x ∈ ps', VR ρ (evA tm x.2) (ev x.2)) → (zaf (zb7 P z fs (j + 1) (off + n) ps') none fun h => zhe ((z.drop off).take n) h) = some (.mk h) →
     off ≤ z.length ∧ ∃ L, k L = .ok v hp' ∧ (∀ u ∈ L, oneC u = true) ∧ ∀ c : Array Value, c.size = z.length → (∀ i, off ≤ i → c[i]? = z[i]?) →
     ∃ (c' : Array Value) (L' : List Value), Instr.fill place c (ps'.map fun x => (x.1, ev x.2)) = some c' ∧ c'.size = c.size ∧ LR ρ L L' ∧ L.length = z.length - off ∧ (∀ i, c'[i]? = if i < off then c[i]? else L'[i - off]?) := by
     intro ps' hv' hh
     cases hfl : zb7 P z fs (j + 1) (off + n) ps' with
     | none => rw [hfl] at hh; cases hh
     | some hb2 =>
      obtain ⟨g⟩ := hb2
      rw [hfl] at hh
      have hh' : zhr ((z.drop off).take n) (fun zl => some (LBx.mk fun tm k => g tm fun l => appK zl l k)) = some (.mk h) := hh
      rw [zjx] at hh'
      cases hh'
      have hr' : g tm (fun l => appK ((z.drop off).take n) l k) = .ok v hp' := hr
      obtain ⟨hle, L, h1, h2, h3⟩ := zhb hz tm ev place fs (j + 1) (off + n) ps' g hfl hpl' hv' _ v hp' hr'
      rw [zqa] at h1
      have hzl : ((z.drop off).take n).length = n := by simp; omega
      have hz1 : ∀ u ∈ (z.drop off).take n, pl1 u = true := fun u hu => zcf hz u (List.mem_of_mem_drop (List.mem_of_mem_take hu))
      refine ⟨by omega, (z.drop off).take n ++ L, h1, fun u hu => (List.mem_append.1 hu).elim (fun hu => zej (hz1 u hu)) (h2 u), fun c hc hcz => ?_⟩
      obtain ⟨c', L', g1, g2, g3, g4, g5⟩ := h3 c hc fun i hi => hcz i (by omega)
      refine ⟨c', (z.drop off).take n ++ L', g1, g2, .append ?_ g3, by rw [List.length_append, hzl, g4]; omega, fun i => ?_⟩
      · exact .of_get rfl fun i u hi => ⟨u, hi, zf3 (hz1 u (List.mem_of_getElem? hi))⟩
      · rw [g5]
        by_cases h6 : i < off
        · rw [if_pos (by omega), if_pos h6]
        · rw [if_neg h6]
          by_cases h7 : i < off + n
          · rw [if_pos h7, hcz i (by omega), List.getElem?_append_left (by rw [hzl]; omega)]
            rw [List.getElem?_take, if_pos (by omega), List.getElem?_drop]
            congr 1; omega
          · rw [if_neg h7, List.getElem?_append_right (by rw [hzl]; omega), hzl]
            congr 1; omega
    cases ps with
    | nil => exact zeroCase [] (fun x hx => by cases hx) hf'
    | cons y ps' =>
     obtain ⟨i, x⟩ := y
     cases hij : Nat.beq i j with
     | false =>
      have hf2 : (zaf (zb7 P z fs (j + 1) (off + n) ((i, x) :: ps')) none fun h => zhe ((z.drop off).take n) h) = some (.mk h) := by
       have := hf'
       simp only [hij, za9, zbo] at this
       exact this
      exact zeroCase _ hv hf2
     | true =>
      have hij' := Nat.eq_of_beq_eq_true hij
      subst hij'
      have hf2 : (zaf (zb7 P z fs (i + 1) (off + n) ps') none fun h => zg1 (zc5 P fd.type) x h) = some (.mk h) := by
       have := hf'
       simp only [hij, za9] at this
       exact this
      cases hfl : zb7 P z fs (i + 1) (off + n) ps' with
      | none => rw [hfl] at hf2; cases hf2
      | some hb2 =>
       obtain ⟨g⟩ := hb2
       rw [hfl] at hf2
       have hf3 : zg1 (zc5 P fd.type) x (.mk g) = some (.mk h) := hf2
       obtain ⟨gx, ex, sx⟩ := zbs x
       have hvx := hv (i, x) (List.mem_cons_self ..)
       have hplace : place i = some (off, n) := by
        have := hpl 0 fd n rfl hs
        rw [Nat.add_zero, hoff] at this
        exact this
       -- what both kinds of pieces give
       have fin : ∀ cs : List Value, cellsOf (evA tm x) = cs → cs.length = n → (∀ u ∈ cs, oneC u = true) → g tm (fun l => k (cs ++ l)) = .ok v hp' →
        off ≤ z.length ∧ ∃ L, k L = .ok v hp' ∧ (∀ u ∈ L, oneC u = true) ∧ ∀ c : Array Value, c.size = z.length → (∀ i, off ≤ i → c[i]? = z[i]?) →
        ∃ (c' : Array Value) (L' : List Value), Instr.fill place c (((i, x) :: ps').map fun x => (x.1, ev x.2)) = some c' ∧ c'.size = c.size ∧ LR ρ L L' ∧ L.length = z.length - off ∧ (∀ i, c'[i]? = if i < off then c[i]? else L'[i - off]?) := by
        intro cs hcs hlen hone hg
        obtain ⟨hle, L, h1, h2, h3⟩ := zhb hz tm ev place fs (i + 1) (off + n) ps' g hfl hpl' (fun y hy => hv y (List.mem_cons_of_mem _ hy)) _ v hp' hg
        have hl : LR ρ cs (ev x).cells.toList := by rw [← hcs]; exact hvx.cells
        refine ⟨by omega, cs ++ L, h1, fun u hu => (List.mem_append.1 hu).elim (hone u) (h2 u), fun c hc hcz => ?_⟩
        obtain ⟨c1, e1, e2, e3⟩ := zn5 (place := place) (c := c) (i := i) (v := ev x) (rest := ps'.map fun x => (x.1, ev x.2)) hplace (by rw [← hlen, hl.length]; simp) (by omega)
        obtain ⟨c', L', g1, g2, g3, g4, g5⟩ := h3 c1 (by rw [e2]; exact hc) fun m hm => by rw [e3, if_neg (by omega)]; exact hcz m (by omega)
        refine ⟨c', (ev x).cells.toList ++ L', by rw [List.map_cons, e1]; exact g1, by rw [g2, e2], hl.append g3, by rw [List.length_append, hlen, g4]; omega, fun m => ?_⟩
        have hl2 : (ev x).cells.toList.length = n := by rw [← hl.length, hlen]
        rw [g5]
        by_cases h6 : m < off
        · rw [if_pos (by omega), if_pos h6, e3, if_neg (by omega)]
        · rw [if_neg h6]
          by_cases h7 : m < off + n
          · rw [if_pos h7, e3, if_pos (by omega), List.getElem?_append_left (by omega)]
          · rw [if_neg h7, List.getElem?_append_right (by omega), hl2]
            congr 1; omega
       unfold zg1 at hf3
       rw [ex] at hf3
       cases hk : zc5 P fd.type with
       | bad => rw [hk] at hf3; cases hf3
       | agg n' =>
        rw [hk] at hf3
        cases hf3
        have hn' : n' = n := by have := (zcr hk).2; rw [hs] at this; exact (Option.some.inj this).symm
        subst hn'
        have hr' : g tm (fun l => gx tm fun v => zdw n' v k l) = .ok v hp' := hr
        have conv : (fun l => gx tm fun v => zdw n' v k l) = fun l => zdw n' (evA tm x) k l := funext fun l => sx _ _
        rw [conv] at hr'
        cases hagg : zjj (evA tm x) with
        | some cs =>
         have hx := zji hagg
         rw [hx] at hvx hr'
         have hcs : cellsOf (evA tm x) = cs := by rw [hx]; rfl
         have conv2 : (fun l => zdw n' (.agg ⟨cs⟩) k l) = fun l => pick (Nat.beq cs.length n') (k (cs ++ l)) .no := funext fun l => by
          show pick (Nat.beq cs.length n') (appK cs l k) .no = _
          rw [zqa]
         rw [conv2] at hr'
         cases hbl : Nat.beq cs.length n' with
         | false =>
          rw [hbl] at hr'
          obtain ⟨_, L, h1, _⟩ := zhb hz tm ev place fs (i + 1) (off + n') ps' g hfl hpl' (fun y hy => hv y (List.mem_cons_of_mem _ hy)) _ v hp' hr'
          cases h1
         | true =>
          rw [hbl] at hr'
          have hone : ∀ u ∈ cs, oneC u = true := by
           generalize ev (i, x).2 = y at hvx
           cases hvx with
           | agg _ _ h1 _ => exact h1
          exact fin cs hcs (Nat.eq_of_beq_eq_true hbl) hone hr'
        | none =>
         have conv2 : (fun l => zdw n' (evA tm x) k l) = fun _ => .no := funext fun l => by
          unfold zdw
          generalize evA tm x = y at hagg
          cases y <;> first | rfl | cases hagg
         rw [conv2] at hr'
         obtain ⟨_, L, h1, _⟩ := zhb hz tm ev place fs (i + 1) (off + n') ps' g hfl hpl' (fun y hy => hv y (List.mem_cons_of_mem _ hy)) _ v hp' hr'
         cases h1
       | one =>
        rw [hk] at hf3
        cases hf3
        have hn' : n = 1 := by have := (ze2 hk).2; rw [hs] at this; exact Option.some.inj this
        subst hn'
        have hr' : g tm (fun l => gx tm fun v => zl4 v k l) = .ok v hp' := hr
        have conv : (fun l => gx tm fun v => zl4 v k l) = fun l => pick (oneC (evA tm x)) (k ([evA tm x] ++ l)) .no := funext fun l => sx _ _
        rw [conv] at hr'
        cases ho : oneC (evA tm x) with
        | false =>
         rw [ho] at hr'
         obtain ⟨_, L, h1, _⟩ := zhb hz tm ev place fs (i + 1) (off + 1) ps' g hfl hpl' (fun y hy => hv y (List.mem_cons_of_mem _ hy)) _ v hp' hr'
         cases h1
        | true =>
         rw [ho] at hr'
         have hcs : cellsOf (evA tm x) = [evA tm x] := by
          generalize evA tm x = y at ho
          cases y <;> first | rfl | cases ho
         exact fin _ hcs rfl (fun u hu => by rw [List.mem_singleton.1 hu]; exact ho) hr'
theorem zkw : ∀ (fs : List Field) (w : World), (∀ fd ∈ fs, ∃ n, size? P fd.type = some n) →
 (fs.mapM (m := Sem) fun f => do pure (f.offset, ← sizeOf f.type)).run P w = .ok (fs.map fun f => (f.offset, (size? P f.type).getD 0)) w
 | [], w, _ => rfl
 | fd :: fs, w, h => by
  obtain ⟨n, hn⟩ := h fd (List.mem_cons_self ..)
  rw [List.mapM_cons, Sem.run_bind, Sem.run_bind, za2 hn]
  simp only [Result.andThen_ok, Sem.run_pure]
  rw [Sem.run_bind, zkw fs w fun f hf => h f (List.mem_cons_of_mem _ hf)]
  simp [hn]
theorem zlg {z : List Value} : ∀ (fs : List Field) (j off : Nat) (ps : List (Nat × Operand)) (h : LBx R), zb7 P z fs j off ps = some h → ∀ fd ∈ fs, ∃ n, size? P fd.type = some n
 | [], _, _, _, _, _, fd, hfd => by cases hfd
 | fd :: fs, j, off, ps, h, hf, fd', hfd => by
  have hf' : pick (Nat.beq fd.offset off)
   (match size? P fd.type with
   | some n => match ps with
    | (i, x) :: ps' => pick (Nat.beq i j)
     (zaf (zb7 P z fs (j + 1) (off + n) ps') none fun h => zg1 (zc5 P fd.type) x h)
     (zaf (zb7 P z fs (j + 1) (off + n) ((i, x) :: ps')) none fun h => zhe ((z.drop off).take n) h)
    | [] => zaf (zb7 P z fs (j + 1) (off + n) []) none fun h => zhe ((z.drop off).take n) h
   | none => none) none = some h := by cases ps <;> exact hf
  cases hb : Nat.beq fd.offset off with
  | false => rw [hb] at hf'; cases hf'
  | true =>
   rw [hb] at hf'
   cases hs : size? P fd.type with
   | none => rw [hs] at hf'; cases hf'
   | some n =>
    rcases List.mem_cons.1 hfd with rfl | hfd
    · exact ⟨n, hs⟩
    · rw [hs] at hf'
      have some_of : ∀ (ps' : List (Nat × Operand)) (k : LBx R → Option (LBx R)), zaf (zb7 P z fs (j + 1) (off + n) ps') none k = some h → ∃ n, size? P fd'.type = some n := fun ps' k hk => by
       cases hfl : zb7 P z fs (j + 1) (off + n) ps' with
       | none => rw [hfl] at hk; cases hk
       | some g => exact zlg fs (j + 1) (off + n) ps' g hfl fd' hfd
      cases ps with
      | nil => exact some_of _ _ hf'
      | cons y ps' =>
       obtain ⟨i, x⟩ := y
       cases hij : Nat.beq i j with
       | true => simp only [hij, za9] at hf'; exact some_of _ _ hf'
       | false => simp only [hij, za9, zbo] at hf'; exact some_of _ _ hf'
theorem yhc {o : Oper} {t e : TypeId} {len size : Nat} {z : List Value} {ps : Array (Nat × Operand)} (hps : ∀ x ∈ ps.toList, x.2 ∈ o.op.operands) (he : ∀ ev, execOp ev o = valN (Instr.build t (ps.map fun (i, x) => (i, ev x))))
 (hu : P.underlying t = some (.array len e)) (hz : zgk P t = some z) (hs : size? P e = some size) {f : T Value → Hp → R}
 (h : (cond (Nat.ble 1 size && Nat.beq z.length (Nat.mul len size) && bnd len ps.toList) (match T.putList z .leaf 0 fun ct => fNat z.length fun n => TBx.mk ct n with | .mk ct n => Bx.op fun tm hp => zie size n ct (opd2 tm ps.toList) hp) .bad) = .op f) : BxOk P G o f := by
 rw [T.putList_eq, zar] at h
 cases hc : (Nat.ble 1 size && Nat.beq z.length (Nat.mul len size) && bnd len ps.toList) with
 | false => rw [hc] at h; cases h
 | true =>
  rw [hc] at h
  cases h
  simp only [Bool.and_eq_true, Nat.ble_eq] at hc
  obtain ⟨⟨h1, h2⟩, h3⟩ := hc
  have hzl : z.length = len * size := Nat.eq_of_beq_eq_true h2
  intro tm hp v hp' hr ρ w N ev c hev hN
  rw [he]
  replace hr : zie size z.length (T.setList z .leaf 0) (opd2 tm ps.toList) hp = .ok v hp' := hr
  unfold zie at hr
  rw [zjw] at hr
  obtain ⟨zv, hz1, hz2, hz3⟩ := zb9 hz
  have hzc : zv.cells = ⟨z⟩ := by rw [zbl (by rw [hz2]; exact hz3), hz2]
  obtain ⟨t', c', g1, g2, g3, g4⟩ := zpt (ρ := ρ) (len := len) tm ev (by omega) ps.toList (T.setList z .leaf 0) ⟨z⟩ _ v hp' (fun x hx => hev x.2 (hps x hx)) (zmw h3) (by simpa using hzl) (fun i u hu => by
   have hg := zb6 z i u hu
   have hp1 := zcf hz3 u (List.mem_of_getElem? hg)
   exact ⟨zej hp1, u, by simpa using hg, zf3 hp1⟩) hr
  replace g1 := zaq g1
  obtain ⟨l, hl, g1⟩ := g1
  cases g1
  obtain ⟨hlen, hget⟩ := za6 t' z.length 0 l hl
  have hsz : c'.size = z.length := by rw [g3]; simp
  have at_ : ∀ i (hi : i < l.length), t'.get i = some l[i] := fun i hi => by
   have := hget i (by omega)
   rw [Nat.zero_add] at this
   rw [this]; exact List.getElem?_eq_getElem hi
  refine zah c (v' := .agg c') ?_ (.agg l c'.toList (fun u hm => ?_) (.of_get (by simp [hlen, hsz]) fun i u hi => ?_))
  · unfold Instr.build
    rw [Sem.run_bind, zcp hz1]
    simp only [Result.andThen_ok, hzc]
    rw [Sem.run_bind, run_underlying hu]
    simp only [Result.andThen_ok]
    rw [Sem.run_bind, za2 hs]
    simp only [Result.andThen_ok]
    have : (ps.map fun (x : Nat × Operand) => (x.1, ev x.2)).toList = ps.toList.map fun x => (x.1, ev x.2) := by simp
    rw [this, g2]
    rfl
  · obtain ⟨i, hi, rfl⟩ := List.mem_iff_getElem.1 hm
    exact (g4 i _ (at_ i hi)).1
  · have hi' := (List.getElem?_eq_some_iff.1 hi).1
    have hu' := (List.getElem?_eq_some_iff.1 hi).2
    obtain ⟨_, u', k1, k2⟩ := g4 i _ (at_ i hi')
    rw [hu'] at k2
    exact ⟨u', by simpa using k1, k2⟩
theorem ztt {o : Oper} {t : TypeId} {ps : Array (Nat × Operand)} (ho : o.op = .build t ps) {f : T Value → Hp → R} (h : zp6 P t ps.toList = .op f) : BxOk P G o f := by
 have hps : ∀ x ∈ ps.toList, x.2 ∈ o.op.operands := by
  intro x hx
  rw [ho]
  simp [Op.operands]
  exact ⟨x.1, by simpa using hx⟩
 have he : ∀ ev, execOp ev o = valN (Instr.build t (ps.map fun (i, x) => (i, ev x))) := fun ev => by unfold execOp; rw [ho]; rfl
 unfold zp6 at h
 split at h <;> try (simp only [reduceCtorEq] at h)
 rotate_left
 · rename_i len e z hu hz
   split at h <;> try (simp only [reduceCtorEq] at h)
   rename_i size hs
   exact yhc hps he hu hz hs h
 rename_i fs z hu hz
 split at h <;> try (simp only [reduceCtorEq] at h)
 rename_i g hfl
 cases h
 intro tm hp v hp' hr ρ w N ev c hev hN
 rw [he]
 obtain ⟨zv, hz1, hz2, hz3⟩ := zb9 hz
 have hzc : zv.cells = ⟨z⟩ := by rw [zbl (by rw [hz2]; exact hz3), hz2]
 let places : Array (Nat × Nat) := (fs.toList.map fun f => (f.offset, (size? P f.type).getD 0)).toArray
 replace hr : g tm (fun l => .ok (.agg ⟨l⟩) hp) = .ok v hp' := hr
 obtain ⟨_, L, h1, h2, h3⟩ := zhb (ρ := ρ) hz3 tm ev (places[·]?) fs.toList 0 0 ps.toList g hfl (fun m fd n hm hn => by
  simp only [Nat.zero_add]
  show (fs.toList.map fun f => (f.offset, (size? P f.type).getD 0)).toArray[m]? = _
  simp only [List.getElem?_toArray, List.getElem?_map, hm, Option.map_some, hn, Option.getD_some]) (fun x hx => hev x.2 (hps x hx)) _ v hp' hr
 cases h1
 obtain ⟨c', L', g1, g2, g3, g4, g5⟩ := h3 ⟨z⟩ (by simp) (fun i _ => by simp)
 have hc : c' = ⟨L'⟩ := by
  apply Array.ext'
  apply List.ext_getElem?
  intro i
  have := g5 i
  rw [if_neg (by omega), Nat.sub_zero] at this
  simpa using this
 refine zah c (v' := .agg ⟨L'⟩) ?_ (.agg _ _ h2 g3)
 unfold Instr.build
 rw [Sem.run_bind, zcp hz1]
 simp only [Result.andThen_ok, hzc]
 rw [Sem.run_bind, run_underlying hu]
 simp only [Result.andThen_ok]
 rw [Sem.run_bind, Array.mapM_eq_mapM_toList, Sem.run_map, zkw fs.toList w (zlg _ _ _ _ _ hfl)]
 simp only [Result.andThen_ok]
 have : (ps.map fun (x : Nat × Operand) => (x.1, ev x.2)).toList = ps.toList.map fun x => (x.1, ev x.2) := by simp
 rw [this]
 have g1' : Instr.fill (fun x => (fs.toList.map fun f => (f.offset, (size? P f.type).getD 0)).toArray[x]?) ⟨z⟩ (ps.toList.map fun x => (x.1, ev x.2)) = some c' := g1
 rw [g1', hc]
 rfl
/-! Builtins that write. -/
theorem zi0 (zl : List Value) : ∀ n, (repL zl n).length = n * zl.length
 | 0 => by simp [repL]
 | n + 1 => by rw [repL, List.length_append, zi0 zl n, Nat.add_mul, Nat.one_mul, Nat.add_comm]
theorem zqz (zl : List Value) (h0 : 0 < zl.length) : ∀ (n i : Nat), i < n * zl.length → (repL zl n)[i]? = zl[i % zl.length]?
 | 0, i, h => by rw [Nat.zero_mul] at h; omega
 | n + 1, i, h => by
  rw [repL]
  by_cases hi : i < zl.length
  · rw [List.getElem?_append_left hi, Nat.mod_eq_of_lt hi]
  · rw [List.getElem?_append_right (by omega), zqz zl h0 n _ (by rw [Nat.add_mul, Nat.one_mul] at h; omega)]
    rw [← Nat.mod_eq_sub_mod (by omega)]
theorem zl2 {zl : List Value} {u : Value} : ∀ {n : Nat}, u ∈ repL zl n → u ∈ zl
 | 0, h => by cases h
 | n + 1, h => (List.mem_append.1 h).elim id zl2
theorem zke {z : Value} {zl : List Value} (hz : z.cells = ⟨zl⟩) (h0 : 0 < zl.length) (n : Nat) : (Builtin.zeroCells z.cells n).toList = repL zl n := by
 apply List.ext_getElem?
 intro i
 by_cases hi : i < n * zl.length
 · rw [zqz zl h0 n i hi]
   have hm : i % zl.length < zl.length := Nat.mod_lt _ h0
   have : (Builtin.zeroCells z.cells n).toList[i]? = some (z.cells[i % z.cells.size]!) := by
    unfold Builtin.zeroCells
    have hs : z.cells.size = zl.length := by rw [hz]; rfl
    simp [hs, hi]
   rw [this, hz]
   simp [hm]
 · have h1 : (repL zl n)[i]? = none := List.getElem?_eq_none (by rw [zi0]; omega)
   have h2 : (Builtin.zeroCells z.cells n).size = n * zl.length := by rw [size_zeroCells, hz]; rfl
   have h3 : (Builtin.zeroCells z.cells n).toList[i]? = none := List.getElem?_eq_none (by rw [Array.length_toList]; omega)
   rw [h1, h3]
theorem yae {t e ty : TypeId} {zl : List Value} (hu : P.underlying t = some (.slice e)) (hz : zgk P e = some zl) (h0 : 1 ≤ zl.length) : Ok1 P G (zua zl) (fun x => valN (Builtin.clear_ #[t] ty #[x])) := by
 intro a hp v hp' h ρ w N a' c ha hN
 unfold zua at h
 replace h := zbw h
 obtain ⟨base, n, cap, rfl, h⟩ := h
 obtain ⟨z, hz1, hz2, hz3⟩ := zb9 hz
 have hzc : z.cells = ⟨zl⟩ := by rw [zbl (by rw [hz2]; exact hz3), hz2]
 have still : ∀ x : Value, ((∃ l c, x = .slice none l c) ∨ ∃ q c, x = .slice q 0 c) → (Builtin.clear_ #[t] ty #[x]).run P w = .ok undef w := by
  intro x hx
  have nilCase : ∀ l cc, (Builtin.clear_ #[t] ty #[.slice none l cc]).run P w = .ok undef w := fun l cc => by
   show ((underlying t >>= fun d => (match d, Value.slice none l cc with
    | _, .map none | _, .slice none _ _ | _, .slice _ 0 _ => (pure () : Sem Unit)
    | _, .map (some r) => do
     let .map _ clock ← getObj r | stuck "clear: map expected"
     setObj r (.map #[] clock)
    | .slice elem, .slice (some a) n _ => do storeCells a (Builtin.zeroCells (← zeroValue elem).cells n).toList
    | _, _ => stuck "clear: map or slice expected") >>= fun _ => pure (.tuple #[])) : Sem Value).run P w = _
   rw [Sem.run_bind, run_underlying hu]
   rfl
  rcases hx with ⟨l, cc, rfl⟩ | ⟨q, cc, rfl⟩
  · exact nilCase l cc
  · cases q with
    | none => exact nilCase 0 cc
    | some q =>
     show ((underlying t >>= fun d => (match d, Value.slice (some q) 0 cc with
      | _, .map none | _, .slice none _ _ | _, .slice _ 0 _ => (pure () : Sem Unit)
      | _, .map (some r) => do
       let .map _ clock ← getObj r | stuck "clear: map expected"
       setObj r (.map #[] clock)
      | .slice elem, .slice (some a) n _ => do storeCells a (Builtin.zeroCells (← zeroValue elem).cells n).toList
      | _, _ => stuck "clear: map or slice expected") >>= fun _ => pure (.tuple #[])) : Sem Value).run P w = _
     rw [Sem.run_bind, run_underlying hu]
     rfl
 cases base with
 | none =>
  cases h
  cases ha
  exact zah c (still _ (.inl ⟨_, _, rfl⟩)) .undef
 | some q =>
  replace h : zc0 q R.no (fun b o => pick (Nat.beq n 0) (R.ok undef hp) (zeb hp b o (repL zl n) R.no fun hp => R.ok undef hp)) = R.ok v hp' := h
  replace h := zci h
  obtain ⟨b, o, rfl, h⟩ := h
  cases hn : Nat.beq n 0 with
  | true =>
   rw [hn] at h
   cases h
   have := Nat.eq_of_beq_eq_true hn
   subst this
   cases ha <;> exact zah c (still _ (.inr ⟨_, _, rfl⟩)) .undef
  | false =>
   rw [hn] at h
   replace h : zeb hp b o (repL zl n) R.no (fun hp => R.ok undef hp) = R.ok v hp' := h
   have hn0 : 0 < n := by
    cases n with
    | zero => cases hn
    | succ n => omega
   unfold zeb at h
   replace h := zcb h
   obtain ⟨ct, m, e', hv, h⟩ := h
   replace h := zaw h
   obtain ⟨hle, h⟩ := h
   rw [T.putList_eq, Hp.set_eq] at h
   cases h
   rw [Nat.ble_eq] at hle
   have hall : LR ρ (repL zl n) (repL zl n) := .of_get rfl fun i u hi => ⟨u, hi, zf3 (zcf hz3 u (zl2 (List.mem_of_getElem? hi)))⟩
   obtain ⟨w', r1, r2⟩ := zcy c.sat hv hall (fun u hm => zej (zcf hz3 u (zl2 hm))) hle
   have run : ∀ cp : Nat, (Builtin.clear_ #[t] ty #[.slice (some ⟨ρ.blk b, ρ.sh b + o, none⟩) n cp]).run P w = .ok undef w' := by
    intro cp
    obtain ⟨n', rfl⟩ : ∃ n', n = n' + 1 := ⟨n - 1, by omega⟩
    have hz' := zcp (P := P) hz1 w
    have hc' := zke hzc h0 (n' + 1)
    simp [Builtin.clear_, Sem.run_bind, run_underlying hu, hz', hc', r1]
    rfl
   cases ha with
   | slice _ _ _ _ hok hc => exact ⟨_, _, ρ, w', za1 (run _), .inl rfl, .undef, r2⟩
   | openS _ _ _ x cp hok g1 g2 g3 g4 =>
    have := g3 hn0
    subst this
    exact ⟨_, _, ρ, w', za1 (run _), .inl rfl, .undef, r2⟩
theorem yd8 {t xt e ty : TypeId} {size : Nat} (hu : P.underlying t = some (.slice e)) (hs : size? P e = some size) : Ok2 P G (ybp size) (fun d x => valN (Builtin.copy_ #[t, xt] ty #[d, x])) := by
 intro a b hp v hp' h ρ w N a' b' c ha hb hN
 unfold ybp at h
 replace h := zbw h
 obtain ⟨base, dLen, cap, rfl, h⟩ := h
 replace h := zaq h
 obtain ⟨sl, hsl, h⟩ := h
 rw [zar] at h
 replace h := zaq h
 obtain ⟨l, hl, h⟩ := h
 have hmin : pick (Nat.ble sl dLen) sl dLen = Nat.min sl dLen := by
  cases hb' : Nat.ble sl dLen with
  | true => have := Nat.le_of_ble_eq_true hb'; rw [za9]; exact (Nat.min_eq_left this).symm
  | false =>
   have : ¬ sl ≤ dLen := fun h' => by rw [Nat.ble_eq_true_of_le h'] at hb'; cases hb'
   rw [zbo]; exact (Nat.min_eq_right (by omega)).symm
 rw [hmin] at h hl
 obtain ⟨l', h1, h2, h3, hrun⟩ := zmn c.sat hb hl ⟨sl, hsl, Nat.min_le_left _ _⟩
 have hlr := zn1 (P := P) hsl hb w
 have hrun := hrun w rfl
 have run0 : ∀ (q : Option Addr) (cp : Nat) (w' : World), ((match q with | some a => storeCells a l' | none => pure ()) : Sem Unit).run P w = .ok () w' → (Builtin.copy_ #[t, xt] ty #[.slice q dLen cp, b']).run P w = .ok (.int .i64 (.ofNat (Nat.min sl dLen))) w' := by
  intro q cp w' hq
  have : Builtin.copy_ #[t, xt] ty #[.slice q dLen cp, b'] = (do
   let .slice elem ← underlying t | stuck "copy: slice type expected"
   let n := Nat.min (← Builtin.lenOf b') dLen
   let cells ← Builtin.firstCells (← sizeOf elem) n b'
   if let some a := q then storeCells a cells.toList
   pure (goInt n)) := rfl
  rw [this, Sem.run_bind, run_underlying hu, Result.andThen_ok]
  simp only []
  rw [Sem.run_bind, hlr, Result.andThen_ok, Sem.run_bind, za2 hs, Result.andThen_ok, Sem.run_bind, hrun, Result.andThen_ok]
  cases q with
  | none =>
   cases hq
   rfl
  | some q =>
   replace hq : (storeCells q l').run P w = .ok () w' := hq
   simp only [Sem.run_bind]
   rw [hq]
   rfl
 cases base with
 | none =>
  cases h
  cases ha
  exact zah c (run0 none _ w rfl) (.int _ _)
 | some q =>
  replace h : zc0 q R.no (fun b o => zeb hp b o l R.no fun hp => R.ok (intV (Nat.min sl dLen)) hp) = R.ok v hp' := h
  replace h := zci h
  obtain ⟨bb, o, rfl, h⟩ := h
  unfold zeb at h
  replace h := zcb h
  obtain ⟨ct, m, e', hv, h⟩ := h
  replace h := zaw h
  obtain ⟨hle, h⟩ := h
  rw [T.putList_eq, Hp.set_eq] at h
  cases h
  rw [Nat.ble_eq] at hle
  obtain ⟨w', r1, r2⟩ := zcy c.sat hv h1 h2 hle
  cases ha with
  | slice _ _ _ _ hok hc => exact ⟨_, _, ρ, w', za1 (run0 (some _) _ w' r1), .inl rfl, .int _ _, r2⟩
  | openS _ _ _ x cp hok g1 g2 g3 g4 =>
   by_cases h0 : 0 < dLen
   · have := g3 h0
     subst this
     exact ⟨_, _, ρ, w', za1 (run0 (some _) _ w' r1), .inl rfl, .int _ _, r2⟩
   · have hd : dLen = 0 := by omega
     subst hd
     have hl0 : l = [] := by
      have : l.length = Nat.min sl 0 * size := h3
      have hm : Nat.min sl 0 = 0 := Nat.min_eq_right (Nat.zero_le sl)
      rw [hm, Nat.zero_mul] at this
      exact List.eq_nil_of_length_eq_zero this
     subst hl0
     cases h1
     cases r1
     exact ⟨_, _, ρ, w, za1 (run0 (some _) _ w rfl), .inl rfl, .int _ _, r2⟩
/-! Maps. -/
theorem zc8 (w : World) (b : Nat) (o : Obj) : Only b w (w.putObj b o) :=
 ⟨by simp [World.putObj], fun j hj => World.putObj_heap_other hj, rfl, rfl, rfl⟩
theorem zix {ρ : Rho} {d : TypeDesc} {k k' e e' : Value} {b : Bool} (h : Instr.sameNow d k e = some b) (hk : VR ρ k k') (he : VR ρ e e') : k' = k ∧ e' = e := by
 unfold Instr.sameNow at h
 split at h
 · cases hk; cases he; exact ⟨rfl, rfl⟩
 · cases hk; cases he; exact ⟨rfl, rfl⟩
 · cases hk; cases he; exact ⟨rfl, rfl⟩
 · cases h
theorem ER.head {ρ : Rho} {e : MapEntry} {es es' : List MapEntry} (h : ER ρ (e :: es) es') : ∃ e' r, es' = e' :: r ∧ VR ρ e.key e'.key ∧ VR ρ e.val e'.val ∧ e'.born = e.born ∧ ER ρ es r := by
 obtain ⟨h1, h2⟩ := h
 cases es' with
 | nil => simp at h1
 | cons e' r =>
  obtain ⟨x, g1, g2, g3, g4⟩ := h2 0 e rfl
  simp at g1; subst g1
  exact ⟨_, r, rfl, g2, g3, g4, by simpa using h1, fun i y hy => by simpa using h2 (i + 1) y (by simpa using hy)⟩
theorem zjq {ρ : Rho} {d : TypeDesc} {k k' : Value} (hk : VR ρ k k') : ∀ (es es' : List MapEntry) (i : Nat) (r : Option (Nat × Value)), ER ρ es es' → Instr.findNow d k es i = some r →
 (r = none ∧ Instr.findNow d k' es' i = some none) ∨ ∃ j v v', r = some (j, v) ∧ Instr.findNow d k' es' i = some (some (j, v')) ∧ VR ρ v v' ∧ i ≤ j ∧ ∃ e, es[j - i]? = some e ∧ Instr.sameNow d k e.key = some true
 | [], es', i, r, h, hf => by
  have : es' = [] := List.eq_nil_of_length_eq_zero h.1.symm
  subst this
  cases hf
  exact .inl ⟨rfl, rfl⟩
 | e :: es, es', i, r, h, hf => by
  obtain ⟨e', l, rfl, g1, g2, g3, g4⟩ := h.head
  unfold Instr.findNow at hf
  cases hs : Instr.sameNow d k e.key with
  | none => rw [hs] at hf; cases hf
  | some b =>
   obtain ⟨q1, q2⟩ := zix hs hk g1
   have hs' : Instr.sameNow d k' e'.key = some b := by rw [q1, q2]; exact hs
   rw [hs] at hf
   unfold Instr.findNow
   rw [hs']
   cases b with
   | true =>
    cases hf
    exact .inr ⟨i, e.val, e'.val, rfl, rfl, g2, Nat.le_refl _, e, by simp, hs⟩
   | false =>
    rcases zjq hk es l (i + 1) r g4 hf with h5 | ⟨j, v, v', h5, h6, h7, h8, y, h9, h10⟩
    · exact .inl h5
    · refine .inr ⟨j, v, v', h5, h6, h7, by omega, y, ?_, h10⟩
      have : j - i = (j - (i + 1)) + 1 := by omega
      rw [this]; simpa using h9
theorem zhm {kt : TypeId} {d : TypeDesc} (h : zg3 P kt = some d) : P.underlying kt = some d ∧ ((∃ k, d = .int k) ∨ d = .string ∨ d = .bool) := by
 unfold zg3 at h
 split at h
 · rename_i k hu; cases h; exact ⟨hu, .inl ⟨_, rfl⟩⟩
 · rename_i hu; cases h; exact ⟨hu, .inr (.inl rfl)⟩
 · rename_i hu; cases h; exact ⟨hu, .inr (.inr rfl)⟩
 · cases h
theorem zoh {kt : TypeId} {d : TypeDesc} (h : zg3 P kt = some d) (b : Bool) (v : Value) (w : World) : (Instr.checkKey b 10000 kt v).run P w = .ok () w := by
 obtain ⟨hu, hd⟩ := zhm h
 show (Instr.checkKey b (9999 + 1) kt v).run P w = _
 unfold Instr.checkKey
 rw [Sem.run_bind, run_underlying hu, Result.andThen_ok]
 rcases hd with ⟨k, rfl⟩ | rfl | rfl <;> rfl
theorem zjr {kt : TypeId} {d : TypeDesc} (h : zg3 P kt = some d) {k : Value} {es : List MapEntry} {r : Option (Nat × Value)} (hf : Instr.findNow d k es 0 = some r) (w : World) : (Instr.findKey kt k es).run P w = .ok r w := by
 unfold Instr.findKey
 rw [Sem.run_bind, run_underlying (zhm h).1, Result.andThen_ok, hf]
 rfl
theorem znv {v z : Value} {b ok : Bool} {hp hp' : Hp} {ρ : Rho} {z' : Value} (h : looked z b ok hp = .ok v hp') (hz : VR ρ z z') : hp' = hp ∧ VR ρ v (if ok then .tuple #[z', .bool b] else z') := by
 unfold looked at h
 cases ok with
 | true => rw [za9] at h; cases h; exact ⟨rfl, .tuple _ _ (.cons _ _ _ _ hz (.cons _ _ _ _ (.bool b) .nil))⟩
 | false => rw [zbo] at h; cases h; exact ⟨rfl, hz⟩
theorem zr9 {kt : TypeId} {k k' e e' : Value} {ρ : Rho} {b : Bool} (h : zxb P kt k e = some b) (hk : VR ρ k k') (he : VR ρ e e') : k' = k ∧ e' = e ∧ ∀ w, (Op.equal kt k' e').run P w = .ok b w := by
 unfold zxb at h
 cases h1 : pl k with
 | false => rw [h1] at h; cases h
 | true =>
  cases h2 : pl e with
  | false => rw [h1, h2] at h; cases h
  | true =>
   rw [h1, h2] at h
   obtain rfl := zyd h1 hk
   obtain rfl := zyd h2 he
   exact ⟨rfl, rfl, fun w => zdv P _ _ w h⟩
theorem zn4 {ρ : Rho} {kt : TypeId} {k k' : Value} (hk : VR ρ k k') : ∀ (es es' : List MapEntry) (i : Nat) (r : Option (Nat × Value)), ER ρ es es' → zzx P kt k es i = some r →
 (r = none ∧ ∀ w, (Instr.findAsking kt k' es' i).run P w = .ok none w) ∨ ∃ j v v', r = some (j, v) ∧ (∀ w, (Instr.findAsking kt k' es' i).run P w = .ok (some (j, v')) w) ∧ VR ρ v v' ∧ i ≤ j ∧ ∃ e, es[j - i]? = some e ∧ ∀ e', VR ρ e.key e' → e' = e.key ∧ k' = k
 | [], es', i, r, h, hf => by
  have : es' = [] := List.eq_nil_of_length_eq_zero h.1.symm
  subst this
  cases hf
  exact .inl ⟨rfl, fun w => rfl⟩
 | e :: es, es', i, r, h, hf => by
  obtain ⟨e', l, rfl, g1, g2, g3, g4⟩ := h.head
  replace hf : zaf (zxb P kt k e.key) none (fun b => pick b (some (some (i, e.val))) (zzx P kt k es (i + 1))) = some r := hf
  cases hs : zxb P kt k e.key with
  | none => rw [hs] at hf; cases hf
  | some b =>
   rw [hs] at hf
   obtain ⟨q1, q2, q3⟩ := zr9 hs hk g1
   have hrun : ∀ w, (Instr.findAsking kt k' (e' :: l) i).run P w = ((if b then pure (some (i, e'.val)) else Instr.findAsking kt k' l (i + 1)) : Sem (Option (Nat × Value))).run P w := by
    intro w
    show ((Op.equal kt k' e'.key >>= fun b => if b then pure (some (i, e'.val)) else Instr.findAsking kt k' l (i + 1)) : Sem (Option (Nat × Value))).run P w = _
    rw [Sem.run_bind, q3, Result.andThen_ok]
   cases b with
   | true =>
    cases hf
    exact .inr ⟨i, e.val, e'.val, rfl, fun w => (hrun w).trans rfl, g2, Nat.le_refl _, e, by simp, fun x hx => ⟨(zr9 hs hk hx).2.1, q1⟩⟩
   | false =>
    rcases zn4 hk es l (i + 1) r g4 hf with ⟨h5, h6⟩ | ⟨j, v, v', h5, h6, h7, h8, y, h9, h10⟩
    · exact .inl ⟨h5, fun w => (hrun w).trans (h6 w)⟩
    · refine .inr ⟨j, v, v', h5, fun w => (hrun w).trans (h6 w), h7, by omega, y, ?_, h10⟩
      have : j - i = (j - (i + 1)) + 1 := by omega
      rw [this]; simpa using h9
theorem zk4 {kt : TypeId} {kk : KK} (h : zdd P kt = some kk) : (∃ d, kk = .now d ∧ zg3 P kt = some d) ∨ (kk = .str kt ∧ ∃ fs, P.underlying kt = some (.struct fs)) := by
 unfold zdd at h
 split at h
 · rename_i d hd; cases h; exact .inl ⟨d, rfl, hd⟩
 · split at h
   · rename_i fs hu; cases h; exact .inr ⟨rfl, fs, hu⟩
   · cases h
theorem zdi {kt : TypeId} {kk : KK} (h : zdd P kt = some kk) {k k' : Value} {ρ : Rho} {b : Bool} (hok : znx P kk k b = true) (hk : VR ρ k k') (w : World) : (Instr.checkKey b 10000 kt k').run P w = .ok () w := by
 rcases zk4 h with ⟨d, rfl, hd⟩ | ⟨rfl, _⟩
 · exact zoh hd b k' w
 · unfold znx at hok
   simp only at hok
   cases h1 : pl k with
   | false => rw [h1] at hok; cases hok
   | true =>
    rw [h1, cond_true] at hok
    obtain rfl := zyd h1 hk
    cases hr : zcl P (Instr.checkKey b 10000 kt k') with
    | none => rw [hr] at hok; cases hok
    | some u => exact zdv P _ _ w hr
theorem zdo {kt : TypeId} {fs : Array Field} (hu : P.underlying kt = some (.struct fs)) (k : Value) (es : List MapEntry) (w : World) : (Instr.findKey kt k es).run P w = (Instr.findAsking kt k es 0).run P w := by
 unfold Instr.findKey
 rw [Sem.run_bind, run_underlying hu, Result.andThen_ok]
 cases es with
 | nil => rfl
 | cons e es =>
  have : Instr.findNow (.struct fs) k (e :: es) 0 = none := by unfold Instr.findNow Instr.sameNow; rfl
  rw [this]
theorem zjs {ρ : Rho} {kt : TypeId} {kk : KK} (h : zdd P kt = some kk) {k k' : Value} (hk : VR ρ k k') {es es' : List MapEntry} {r : Option (Nat × Value)} (her : ER ρ es es') (hf : zwh P kk k es = some r) :
 (r = none ∧ ∀ w, (Instr.findKey kt k' es').run P w = .ok none w) ∨ ∃ j v v', r = some (j, v) ∧ (∀ w, (Instr.findKey kt k' es').run P w = .ok (some (j, v')) w) ∧ VR ρ v v' ∧ ∃ e, es[j]? = some e ∧ ∀ e', VR ρ e.key e' → e' = e.key ∧ k' = k := by
 rcases zk4 h with ⟨d, rfl, hd⟩ | ⟨rfl, fs, hu⟩
 · rcases zjq hk es es' 0 r her hf with ⟨rfl, g1⟩ | ⟨j, u, u', rfl, g1, g2, _, e, g3, g4⟩
   · exact .inl ⟨rfl, fun w => zjr hd g1 w⟩
   · exact .inr ⟨j, u, u', rfl, fun w => zjr hd g1 w, g2, e, by simpa using g3, fun e' he' => (zix g4 hk he').symm⟩
 · rcases zn4 hk es es' 0 r her hf with ⟨rfl, g1⟩ | ⟨j, u, u', rfl, g1, g2, _, e, g3, g4⟩
   · exact .inl ⟨rfl, fun w => (zdo hu _ _ w).trans (g1 w)⟩
   · exact .inr ⟨j, u, u', rfl, fun w => (zdo hu _ _ w).trans (g1 w), g2, e, by simpa using g3, g4⟩
theorem zrx {ρ : Rho} {es : List MapEntry} {es' : Array MapEntry} (h : ER ρ es es'.toList) : es'.isEmpty = es.isEmpty := by
 have h1 : es.length = es'.size := by simpa using h.1
 cases es with
 | nil =>
  have : es' = #[] := Array.eq_empty_of_size_eq_zero (by simpa using h1.symm)
  subst this; rfl
 | cons e es =>
  cases hq : es'.isEmpty with
  | false => rfl
  | true =>
   have : es' = #[] := by simpa using hq
   subst this; cases h1
theorem zvv {t kt et : TypeId} {d : KK} {z : Value} {ok : Bool} (hu : P.underlying t = some (.map kt et)) (hd : zdd P kt = some d) (hz : zero? P et = some z) (hpl : pl z = true) :
 Ok2 P G (zos P d z ok) (fun x k => valN (Instr.lookup t x k ok)) := by
 intro a k hp v hp' h ρ w N a' k' c ha hk hN
 unfold zos at h
 replace h := zh6 h
 obtain ⟨r, rfl, h⟩ := h
 -- what the entries give
 have fin : ∀ (es : List MapEntry) (es' : Array MapEntry) (x' : Value), zri P d z ok k hp es = .ok v hp' → ER ρ es es'.toList →
  ((x' = .map none ∧ es' = #[]) ∨ ∃ q clock, x' = .map (some q) ∧ w.heap[q]? = some (.map es' clock)) → Good P G hp hp' ρ w v (valN (Instr.lookup t x' k' ok)) := by
  intro es es' x' h her hes
  unfold zri at h
  obtain ⟨hko, h⟩ := zaw h
  rw [← zrx her] at hko
  replace h := zaq h
  obtain ⟨f, hf, h⟩ := h
  have run : ∀ (u : Value) (b : Bool) (r : Option (Nat × Value)), (∀ w, (Instr.findKey kt k' es'.toList).run P w = .ok r w) → ((r = none ∧ u = z ∧ b = false) ∨ ∃ j, r = some (j, u) ∧ b = true) →
   (Instr.lookup t x' k' ok).run P w = .ok (if ok then .tuple #[u, .bool b] else u) w := by
   intro u b r hr hor
   unfold Instr.lookup
   rw [Sem.run_bind, run_underlying hu]
   simp only [Result.andThen_ok]
   have fin2 : ∀ s : Sem Value, s.run P w = ((do
    let (v, ok') ← match r with
     | some (_, v) => pure (v, true)
     | none => do pure (← zeroValue et, false)
    pure (if ok then .tuple #[v, .bool ok'] else v) : Sem Value)).run P w → s.run P w = .ok (if ok then .tuple #[u, .bool b] else u) w := by
    intro s hs
    rw [hs]
    rcases hor with ⟨rfl, rfl, rfl⟩ | ⟨j, rfl, rfl⟩
    · simp only [Sem.run_bind]
      rw [zcp hz]
      rfl
    · rfl
   apply fin2
   rcases hes with ⟨rfl, rfl⟩ | ⟨q, clock, rfl, hh⟩
   · simp only [Sem.run_bind, Sem.run_pure, Result.andThen_ok]
     rw [zdi hd hko hk]
     simp only [Result.andThen_ok]
     rw [hr]
     rfl
   · simp only [Sem.run_bind]
     rw [zdg hh]
     simp only [Result.andThen_ok, Sem.run_bind, Sem.run_pure]
     rw [zdi hd hko hk]
     simp only [Result.andThen_ok]
     rw [hr]
     rfl
  rcases zjs hd hk her hf with ⟨rfl, g1⟩ | ⟨j, u, u', rfl, g1, g2, _⟩
  · obtain ⟨rfl, g3⟩ := znv (ρ := ρ) h (zpc hpl)
    exact zah c (run z false none g1 (.inl ⟨rfl, rfl, rfl⟩)) g3
  · obtain ⟨rfl, g3⟩ := znv (ρ := ρ) h g2
    exact zah c (run u' true _ g1 (.inr ⟨j, rfl, rfl⟩)) g3
 cases r with
 | none =>
  cases ha
  exact fin [] #[] _ h ⟨rfl, fun i e he => by simp at he⟩ (.inl ⟨rfl, rfl⟩)
 | some r =>
  replace h := zdy (o := hp.vis r) h
  obtain ⟨es, clock, hv, h⟩ := h
  obtain ⟨hok, hlt, es', hh, her⟩ := c.sat.vis _ _ hv
  cases ha
  exact fin es es' _ h her (.inr ⟨_, _, rfl, hh⟩)
theorem ziw {ρ : Rho} {k k' v v' : Value} (hk : VR ρ k k') (hv : VR ρ v v') : ∀ (es : List MapEntry) (es' : List MapEntry) (i : Nat), ER ρ es es' → ER ρ (zce k v es i) (es'.modify i fun e => { e with key := k', val := v' })
 | [], es', i, h => by
  have : es' = [] := List.eq_nil_of_length_eq_zero h.1.symm
  subst this
  cases i <;> exact h
 | e :: es, es', i, h => by
  obtain ⟨e', l, rfl, g1, g2, g3, g4⟩ := h.head
  cases i with
  | zero =>
   refine ⟨by simp [zce, g4.1], fun j x hx => ?_⟩
   cases j with
   | zero => simp [zce] at hx; subst hx; exact ⟨{ e' with key := k', val := v' }, by simp, hk, hv, g3⟩
   | succ j => obtain ⟨y, h1, h2⟩ := g4.2 j x (by simpa [zce] using hx); exact ⟨y, by simpa using h1, h2⟩
  | succ i =>
   have ih := ziw hk hv es l i g4
   refine ⟨by simpa [zce] using ih.1, fun j x hx => ?_⟩
   cases j with
   | zero => simp [zce] at hx; subst hx; exact ⟨e', by simp, g1, g2, g3⟩
   | succ j => obtain ⟨y, h1, h2⟩ := ih.2 j x (by simpa [zce] using hx); exact ⟨y, by simpa using h1, h2⟩
theorem ER.push {ρ : Rho} {es es' : List MapEntry} {k k' v v' : Value} {c : Nat} (h : ER ρ es es') (hk : VR ρ k k') (hv : VR ρ v v') : ER ρ (es ++ [⟨k, v, c⟩]) (es' ++ [⟨k', v', c⟩]) := by
 refine ⟨by simp [h.1], fun i e he => ?_⟩
 by_cases hi : i < es.length
 · rw [List.getElem?_append_left hi] at he
   obtain ⟨y, h1, h2⟩ := h.2 i e he
   exact ⟨y, by rw [List.getElem?_append_left (by rw [← h.1]; exact hi)]; exact h1, h2⟩
 · rw [List.getElem?_append_right (by omega)] at he
   have : i - es.length = 0 := by
    cases hd : i - es.length with
    | zero => rfl
    | succ n => rw [hd] at he; simp at he
   rw [this] at he
   simp at he; subst he
   exact ⟨⟨k', v', c⟩, by rw [List.getElem?_append_right (by rw [← h.1]; omega), ← h.1, this]; rfl, hk, hv, rfl⟩
theorem zew {w : World} {r : Nat} {es : Array MapEntry} {k : Nat} (h : w.heap[r]? = some (.map es k)) (o : Obj) : (setObj r o).run P w = .ok () (w.putObj r o) := by
 simp [setObj, Sem.run, h, World.putObj]
theorem znt {t kt et : TypeId} {d : KK} (hu : P.underlying t = some (.map kt et)) (hd : zdd P kt = some d) :
 Ok3 P G (zgo P d) (fun m k x => uniN (Instr.mapUpdate t m k x)) := by
 intro a k x hp v hp' h ρ w N a' k' x' c ha hk hx hN
 unfold zgo at h
 replace h := zh6 h
 obtain ⟨r, rfl, h⟩ := h
 replace h := zaq h
 obtain ⟨r, rfl, h⟩ := h
 replace h := zdy h
 obtain ⟨es, clock, hv, h⟩ := h
 obtain ⟨hko, h⟩ := zaw h
 replace h := zaq h
 obtain ⟨f, hf, h⟩ := h
 obtain ⟨hok, hlt, es', hh, her⟩ := c.sat.vis _ _ hv
 cases ha
 have run : ∀ (r1 : Option (Nat × Value)) (o1 : Obj), (∀ w, (Instr.findKey kt k' es'.toList).run P w = .ok r1 w) →
  ((r1 = none ∧ o1 = .map (es'.push { key := k', val := x', born := clock }) (clock + 1)) ∨ ∃ i u, r1 = some (i, u) ∧ Instr.sameBits 10000 (((es'[i]?).map (·.key)).getD k') k' = true ∧ o1 = .map (es'.modify i fun e => { e with key := k', val := x' }) clock) →
  (Instr.mapUpdate t (.map (some (ρ.blk r))) k' x').run P w = .ok () (w.putObj (ρ.blk r) o1) := by
  intro r1 o1 hr1 hor
  unfold Instr.mapUpdate
  rw [Sem.run_bind, run_underlying hu]
  simp only [Result.andThen_ok]
  rw [Sem.run_bind, zdg hh]
  simp only [Result.andThen_ok]
  rw [Sem.run_bind, zdi hd hko hk]
  simp only [Result.andThen_ok]
  rw [Sem.run_bind, hr1]
  simp only [Result.andThen_ok]
  rcases hor with ⟨rfl, rfl⟩ | ⟨i, u, rfl, hs, rfl⟩
  · exact zew hh _
  · simp only [Instr.keyThatStays, hs, if_true]
    exact zew hh _
 rcases zjs hd hk her hf with ⟨rfl, g1⟩ | ⟨j, u, u', rfl, g1, g2, e, g3, g4⟩
 · replace h : fNat (Nat.succ clock) (fun c => zhj hp r (es ++ [⟨k, x, clock⟩]) c fun hp => .ok undef hp) = .ok v hp' := h
   rw [zar] at h
   unfold zhj at h
   rw [zd2, Hp.set_eq] at h
   cases h
   have hpost : Post P G hp (hp.upd r (some (.map (es ++ [⟨k, x, clock⟩]) (clock + 1)))) ρ ρ w (w.putObj (ρ.blk r) (.map (es'.push { key := k', val := x', born := clock }) (clock + 1))) :=
    Post.upd c.sat hv (zc8 _ _ _) ⟨_, World.putObj_heap_same hlt, by rw [Array.toList_push]; exact her.push hk hx⟩
   exact ⟨.skip, undef, ρ, _, zh2 (run none _ g1 (.inl ⟨rfl, rfl⟩)), .inr ⟨rfl, rfl⟩, .undef, hpost⟩
 · replace h : ybx k x r es clock hp j = .ok v hp' := h
   unfold ybx at h
   replace h := zaq h
   obtain ⟨e1, he1, h⟩ := h
   replace h := zaw h
   obtain ⟨hsb, h⟩ := h
   unfold zhj at h
   rw [zd2, Hp.set_eq] at h
   cases h
   have hsame : Instr.sameBits 10000 (((es'[j]?).map (·.key)).getD k') k' = true := by
    rw [he1] at g3
    cases g3
    obtain ⟨e', q1, q2, _⟩ := her.2 j _ he1
    have : es'[j]? = some e' := by simpa using q1
    rw [this]
    obtain ⟨q5, q4⟩ := g4 _ q2
    show Instr.sameBits 10000 e'.key k' = true
    rw [q4, q5]
    exact hsb
   have hpost : Post P G hp (hp.upd r (some (.map (zce k x es j) clock))) ρ ρ w (w.putObj (ρ.blk r) (.map (es'.modify j fun e => { e with key := k', val := x' }) clock)) :=
    Post.upd c.sat hv (zc8 _ _ _) ⟨_, World.putObj_heap_same hlt, by rw [Array.toList_modify]; exact ziw hk hx _ _ _ her⟩
   exact ⟨.skip, undef, ρ, _, zh2 (run _ _ g1 (.inr ⟨j, u', rfl, hsame, rfl⟩)), .inr ⟨rfl, rfl⟩, .undef, hpost⟩
theorem zrw {ρ : Rho} : ∀ (es es' : List MapEntry) (i : Nat), ER ρ es es' → ER ρ (zht es i) (es'.eraseIdx i)
 | [], es', i, h => by
  have : es' = [] := List.eq_nil_of_length_eq_zero h.1.symm
  subst this
  cases i <;> exact h
 | e :: es, es', i, h => by
  obtain ⟨e', l, rfl, g1, g2, g3, g4⟩ := h.head
  cases i with
  | zero => exact g4
  | succ i =>
   have ih := zrw es l i g4
   refine ⟨by simpa [zht] using ih.1, fun j x hx => ?_⟩
   cases j with
   | zero => simp [zht] at hx; subst hx; exact ⟨e', by simp, g1, g2, g3⟩
   | succ j => obtain ⟨y, h1, h2⟩ := ih.2 j x (by simpa [zht] using hx); exact ⟨y, by simpa using h1, h2⟩
theorem zwv {t kt et ty xt : TypeId} {d : KK} (hu : P.underlying t = some (.map kt et)) (hd : zdd P kt = some d) :
 Ok2 P G (zot P d) (fun m k => valN (Builtin.delete_ #[t, xt] ty #[m, k])) := by
 intro a k hp v hp' h ρ w N a' k' c ha hk hN
 unfold zot at h
 obtain ⟨r, rfl, h⟩ := zh6 h
 cases r with
 | none =>
  replace h : pick (znx P d k true) (R.ok undef hp) .no = .ok v hp' := h
  obtain ⟨hko, h⟩ := zaw h
  cases h
  cases ha
  refine zah c ?_ .undef
  have e : (Builtin.delete_ #[t, xt] ty #[.map none, k']).run P w = ((do Instr.checkKey true 10000 kt k'; pure (.tuple #[])) : Sem Value).run P w := by
   show ((underlying t >>= _) : Sem Value).run P w = _
   rw [Sem.run_bind, run_underlying hu]
   rfl
  rw [e, Sem.run_bind, zdi hd hko hk, Result.andThen_ok]
  rfl
 | some r =>
  replace h : zdz (hp.vis r) R.no (fun es clock => pick (znx P d k es.isEmpty) (zaf (zwh P d k es) R.no fun f => zhj hp r (zaf f es fun x => zht es x.1) clock fun hp => R.ok undef hp) R.no) = R.ok v hp' := h
  obtain ⟨es, clock, hv, h⟩ := zdy h
  obtain ⟨hko, h⟩ := zaw h
  obtain ⟨f, hf, h⟩ := zaq h
  obtain ⟨hok, hlt, es', hh, her⟩ := c.sat.vis _ _ hv
  rw [← zrx her] at hko
  unfold zhj at h
  rw [zd2, Hp.set_eq] at h
  cases h
  cases ha
  have run : ∀ (r1 : Option (Nat × Value)) (es2 : Array MapEntry), (∀ w, (Instr.findKey kt k' es'.toList).run P w = .ok r1 w) → ((r1 = none ∧ es2 = es') ∨ ∃ i u, r1 = some (i, u) ∧ es2 = es'.eraseIdxIfInBounds i) →
   (Builtin.delete_ #[t, xt] ty #[.map (some (ρ.blk r)), k']).run P w = .ok undef (w.putObj (ρ.blk r) (.map es2 clock)) := by
   intro r1 es2 hr1 hor
   rcases hor with ⟨rfl, rfl⟩ | ⟨i, u, rfl, rfl⟩
   · simp [Builtin.delete_, Sem.run_bind, run_underlying hu, zdg hh, zdi hd hko hk, hr1, zew hh]
     rfl
   · simp [Builtin.delete_, Sem.run_bind, run_underlying hu, zdg hh, zdi hd hko hk, hr1, zew hh]
     rfl
  rcases zjs hd hk her hf with ⟨rfl, g1⟩ | ⟨j, u, u', rfl, g1, g2, e, g3, g4⟩
  · have hpost : Post P G hp (hp.upd r (some (.map es clock))) ρ ρ w (w.putObj (ρ.blk r) (.map es' clock)) :=
     Post.upd c.sat hv (zc8 _ _ _) ⟨_, World.putObj_heap_same hlt, her⟩
    exact ⟨_, undef, ρ, _, za1 (run _ _ g1 (.inl ⟨rfl, rfl⟩)), .inl rfl, .undef, hpost⟩
  · have hpost : Post P G hp (hp.upd r (some (.map (zht es j) clock))) ρ ρ w (w.putObj (ρ.blk r) (.map (es'.eraseIdxIfInBounds j) clock)) := by
     refine Post.upd c.sat hv (zc8 _ _ _) ⟨_, World.putObj_heap_same hlt, ?_⟩
     have : (es'.eraseIdxIfInBounds j).toList = es'.toList.eraseIdx j := by
      unfold Array.eraseIdxIfInBounds
      split
      · simp
      · rename_i hb; rw [List.eraseIdx_of_length_le (by simpa using hb)]
     rw [this]
     exact zrw _ _ _ her
    exact ⟨_, undef, ρ, _, za1 (run _ _ g1 (.inr ⟨j, u', rfl, rfl⟩)), .inl rfl, .undef, hpost⟩
theorem zvt {hp : Hp} {ρ : Rho} {w : World} {N : Nat} {v : Value} {hp' : Hp} (h : mapV hp = .ok v hp') (c : Ctx P G hp ρ w N) (hN : hp'.next ≤ N) {s : Sem Value} (hs : s.run P w = .ok (.map (some w.heap.size)) (World.more w (.map #[] 0))) : Good P G hp hp' ρ w v (valN s) := by
 unfold mapV at h
 rw [zec] at h
 cases h
 have hf := c.fresh hp.next (Nat.le_refl _) hN
 have e2 : (ρ.add hp.next w.heap.size 0 0 0).blk hp.next = w.heap.size := if_pos rfl
 have p : Post P G hp (hp.new (.map [] 0)) ρ (ρ.add hp.next w.heap.size 0 0 0) w (World.more w (.map #[] 0)) :=
  Post.newBlock c.sat hf ⟨#[], by rw [e2]; exact World.more_at _ _, rfl, fun i e he => by simp at he⟩
 have hv := VR.map (ρ := ρ.add hp.next w.heap.size 0 0 0) hp.next (.inl rfl)
 rw [e2] at hv
 exact ⟨_, _, _, _, za1 hs, .inl rfl, hv, p⟩
end Go.Proofs.YtelanmknimapoaaGreatDoor.Sx
/- An executor of closed runs: every operation, and calls. -/
namespace Go.Proofs.YtelanmknimapoaaGreatDoor.Sx
open Go
variable {P : Program} {G : Env}
theorem zto {o : Oper} {cl : Call} {b : Builtin} (ho : o.op = .call cl) (hb : cl.callee = .builtin b) {f : T Value → Hp → R} (h : zj4 P b cl.argTypes.toList cl.args.toList = .op f) : BxOk P G o f := by
 have hmem : ∀ x ∈ cl.args.toList, x ∈ o.op.operands := by intro x hx; rw [ho]; simp [Op.operands, Call.operands, hb]; simpa using hx
 unfold zj4 at h
 split at h <;> try (simp only [reduceCtorEq] at h)
 · rename_i t x ht hx
   have ht' : cl.argTypes = #[t] := by apply Array.ext'; simpa using ht
   have hx' : cl.args = #[x] := by apply Array.ext'; simpa using hx
   split at h <;> try (simp only [reduceCtorEq] at h)
   rename_i e hu
   split at h <;> try (simp only [reduceCtorEq] at h)
   rename_i zl hz
   cases hc : Nat.ble 1 zl.length with
   | false => rw [hc] at h; simp only [cond_false, reduceCtorEq] at h
   | true =>
    rw [hc, cond_true] at h
    have he : ∀ ev, execOp ev o = valN (Builtin.clear_ #[t] o.type #[ev x]) := fun ev => by
     rw [zck ho hb]; rw [ht', hx']; show valN (Builtin.clear_ #[t] o.type (Array.map ev #[x])) = _; simp
    exact bx1 (S := fun a => valN (Builtin.clear_ #[t] o.type #[a])) h (yae hu hz (Nat.le_of_ble_eq_true hc)) (hmem x (by rw [hx]; simp)) he
 · rename_i t xt m k ht hx
   have hx' : cl.args = #[m, k] := by apply Array.ext'; simpa using hx
   have ht' : cl.argTypes = #[t, xt] := by apply Array.ext'; simpa using ht
   split at h <;> try (simp only [reduceCtorEq] at h)
   rename_i kt et hu
   split at h <;> try (simp only [reduceCtorEq] at h)
   rename_i d hd
   have he : ∀ ev, execOp ev o = valN (Builtin.delete_ #[t, xt] o.type #[ev m, ev k]) := fun ev => by
    rw [zck ho hb]; rw [hx', ht']; show valN (Builtin.delete_ #[t, xt] o.type (Array.map ev #[m, k])) = _; simp
   exact bx2 (S := fun a b => valN (Builtin.delete_ #[t, xt] o.type #[a, b])) h (zwv hu hd) (hmem m (by rw [hx]; simp)) (hmem k (by rw [hx]; simp)) he
 · rename_i t xt d x ht hx
   have hx' : cl.args = #[d, x] := by apply Array.ext'; simpa using hx
   have ht' : cl.argTypes = #[t, xt] := by apply Array.ext'; simpa using ht
   split at h <;> try (simp only [reduceCtorEq] at h)
   rename_i e hu
   split at h <;> try (simp only [reduceCtorEq] at h)
   rename_i size hs
   have he : ∀ ev, execOp ev o = valN (Builtin.copy_ #[t, xt] o.type #[ev d, ev x]) := fun ev => by
    rw [zck ho hb]; rw [hx', ht']; show valN (Builtin.copy_ #[t, xt] o.type (Array.map ev #[d, x])) = _; simp
   exact bx2 (S := fun a b => valN (Builtin.copy_ #[t, xt] o.type #[a, b])) h (yd8 hu hs) (hmem d (by rw [hx]; simp)) (hmem x (by rw [hx]; simp)) he
theorem zoo {o : Oper} {cl : Call} {b : Builtin} (ho : o.op = .call cl) (hb : cl.callee = .builtin b) {f : T Value → Hp → R} (h : zep P o b cl.argTypes.toList cl.args.toList = .op f) : BxOk P G o f := by
 have hsel : ∀ cs b, o.op ≠ .select cs b := by rw [ho]; intro cs b e; cases e
 have hmem : ∀ x ∈ cl.args.toList, x ∈ o.op.operands := by intro x hx; rw [ho]; simp [Op.operands, Call.operands, hb]; simpa using hx
 unfold zep at h
 split at h <;> try (simp only [reduceCtorEq] at h)
 · rename_i st xt s x ht hx
   have ht' : cl.argTypes = #[st, xt] := by apply Array.ext'; simpa using ht
   have hx' : cl.args = #[s, x] := by apply Array.ext'; simpa using hx
   split at h <;> try (simp only [reduceCtorEq] at h)
   rename_i e hu hn
   split at h <;> try (simp only [reduceCtorEq] at h)
   rename_i size inf zl hs hi hz
   cases hc : (Nat.ble inf.bytes 4096 && Nat.beq zl.length size) with
   | false => rw [hc] at h; simp only [cond_false, reduceCtorEq] at h
   | true =>
    rw [hc, cond_true, zar] at h
    simp only [Bool.and_eq_true, Nat.ble_eq] at hc
    have he : ∀ ev, execOp ev o = valN (Builtin.append_ #[st, xt] o.type #[ev s, ev x]) := fun ev => by
     rw [zck ho hb]; rw [ht', hx']; show valN (Builtin.append_ #[st, xt] o.type (Array.map ev #[s, x])) = _; simp
    exact bx2 (S := fun a b => valN (Builtin.append_ #[st, xt] o.type #[a, b])) h (zxe hu hn hs hi hz hc.1 (Nat.eq_of_beq_eq_true hc.2)) (hmem s (by rw [hx]; simp)) (hmem x (by rw [hx]; simp)) he
 · rename_i t x ht hx
   exact yai ho hb ht hx h
 · unfold zbc at h; cases h; exact zbq hsel
 · unfold zbc at h; cases h; exact zbq hsel
 · exact zto ho hb h
theorem zw4 {o : Oper} {t : TypeId} {a : Operand} (ho : o.op = .load t a) {f : T Value → Hp → R} (h : zw5 P t a = .op f) : BxOk P G o f := by
 have hx : a ∈ o.op.operands := by rw [ho]; simp [Op.operands]
 have he : ∀ ev, execOp ev o = valN (Instr.loadAt t (ev a)) := fun ev => by unfold execOp; rw [ho]; rfl
 unfold zw5 at h
 split at h <;> try (simp only [reduceCtorEq] at h)
 · rename_i n hk; exact bx1 (S := fun a => valN (Instr.loadAt t a)) h (zs9 hk) hx he
 · rename_i hk; exact bx1 (S := fun a => valN (Instr.loadAt t a)) h (zs8 hk) hx he
theorem ztp {o : Oper} {t : TypeId} {a x : Operand} (ho : o.op = .store t a x) {f : T Value → Hp → R} (h : zp1 P t a x = .op f) : BxOk P G o f := by
 have ha : a ∈ o.op.operands := by rw [ho]; simp [Op.operands]
 have hx : x ∈ o.op.operands := by rw [ho]; simp [Op.operands]
 have he : ∀ ev, execOp ev o = uniN (Instr.storeAt t (ev a) (ev x)) := fun ev => by unfold execOp; rw [ho]; rfl
 unfold zp1 at h
 split at h <;> try (simp only [reduceCtorEq] at h)
 · rename_i n hk; exact bx2 (S := fun a x => uniN (Instr.storeAt t a x)) h (zo3 hk) ha hx he
 · rename_i hk; exact bx2 (S := fun a x => uniN (Instr.storeAt t a x)) h (zo2 hk) ha hx he
theorem ztu {o : Oper} {t : TypeId} (ho : o.op = .alloc t) {f : T Value → Hp → R} (h : zp7 P t = .op f) : BxOk P G o f := by
 have he : ∀ ev, execOp ev o = valN (Instr.alloc t true (.tuple #[])) := fun ev => by unfold execOp; rw [ho]; rfl
 unfold zp7 at h
 split at h <;> try (simp only [reduceCtorEq] at h)
 rename_i l hz
 rw [T.putList_eq, zar] at h
 cases h
 intro tm hp v hp' hr ρ w N ev c hev hN
 rw [he]
 exact yas t hz hp v hp' hr ρ w N c hN
theorem zkn {o : Oper} {s : TypeId} {x : Operand} {fi : Nat} (ho : o.op = .fieldAddr s x fi) {f : T Value → Hp → R} (h : zfo P s x fi = .op f) : BxOk P G o f := by
 have hx : x ∈ o.op.operands := by rw [ho]; simp [Op.operands]
 have he : ∀ ev, execOp ev o = valN (Instr.fieldAt s (ev x) fi) := fun ev => by unfold execOp; rw [ho]; rfl
 unfold zfo at h
 split at h <;> try (simp only [reduceCtorEq] at h)
 rename_i fs hu
 split at h <;> try (simp only [reduceCtorEq] at h)
 rename_i fd hf
 split at h <;> try (simp only [reduceCtorEq] at h)
 rename_i n hn
 cases hb : Nat.ble 1 n with
 | false => rw [hb] at h; simp only [zbo, reduceCtorEq] at h
 | true =>
  rw [hb, za9, zar] at h
  exact bx1 (S := fun a => valN (Instr.fieldAt s a fi)) h (zn7 hu hf hn hb) hx he
theorem zkm {o : Oper} {t : TypeId} {x i : Operand} (ho : o.op = .indexAddr t x i) {f : T Value → Hp → R} (h : zfn P t x i = .op f) : BxOk P G o f := by
 have hx : x ∈ o.op.operands := by rw [ho]; simp [Op.operands]
 have hi : i ∈ o.op.operands := by rw [ho]; simp [Op.operands]
 have he : ∀ ev, execOp ev o = valN (Instr.indexAt t (ev x) (ev i)) := fun ev => by unfold execOp; rw [ho]; rfl
 unfold zfn at h
 split at h <;> try (simp only [reduceCtorEq] at h)
 · rename_i e hu
   split at h <;> try (simp only [reduceCtorEq] at h)
   rename_i n hn
   rw [zar] at h
   exact bx2 (S := fun a b => valN (Instr.indexAt t a b)) h (zmg hu hn) hx hi he
 · rename_i len e hu
   split at h <;> try (simp only [reduceCtorEq] at h)
   rename_i n hn
   rw [zar] at h
   exact bx2 (S := fun a b => valN (Instr.indexAt t a b)) h (zmh hu hn) hx hi he
theorem zkl {o : Oper} {t : TypeId} {l cp : Operand} (ho : o.op = .makeSlice t l cp) {f : T Value → Hp → R} (h : zfm P t l cp = .op f) : BxOk P G o f := by
 have hx : l ∈ o.op.operands := by rw [ho]; simp [Op.operands]
 have hi : cp ∈ o.op.operands := by rw [ho]; simp [Op.operands]
 have he : ∀ ev, execOp ev o = valN (Instr.makeSlice t (ev l) (ev cp)) := fun ev => by unfold execOp; rw [ho]; rfl
 unfold zfm at h
 split at h <;> try (simp only [reduceCtorEq] at h)
 rename_i e hu
 split at h <;> try (simp only [reduceCtorEq] at h)
 rename_i size zl inf hs hz hinf
 cases hc : (Nat.beq zl.length size && Nat.ble 1 size) with
 | false => rw [hc] at h; simp only [cond_false, reduceCtorEq] at h
 | true =>
  rw [hc, cond_true] at h
  simp only [Bool.and_eq_true, Nat.ble_eq] at hc
  exact bx2 (S := fun a b => valN (Instr.makeSlice t a b)) h (znu hu hs hz hinf (Nat.eq_of_beq_eq_true hc.1) hc.2) hx hi he
theorem zol {o : Oper} {t : TypeId} {r : Option Operand} (ho : o.op = .makeMap t r) {f : T Value → Hp → R} (h : zj6 P t r = .op f) : BxOk P G o f := by
 have run : ∀ w : World, (do pure (.map (some (← newObj (.map #[] 0)))) : Sem Value).run P w = .ok (.map (some w.heap.size)) (World.more w (.map #[] 0)) := fun w => by
  rfl
 unfold zj6 at h
 cases r with
 | none =>
  cases h
  intro tm hp v hp' hr ρ w N ev c hev hN
  have he : execOp ev o = valN (Instr.makeMap t none) := by unfold execOp; rw [ho]; rfl
  rw [he]
  exact zvt hr c hN (run w)
 | some x =>
  have hx : x ∈ o.op.operands := by rw [ho]; simp [Op.operands]
  have he : ∀ ev, execOp ev o = valN (Instr.makeMap t (some (ev x))) := fun ev => by unfold execOp; rw [ho]; rfl
  simp only at h
  split at h <;> try (simp only [reduceCtorEq] at h)
  rename_i kt et hu
  refine bx1 (S := fun a => valN (Instr.makeMap t (some a))) h (fun a hp v hp' hr ρ w N a' c ha hN => ?_) hx he
  replace hr := zf4 hr
  obtain ⟨k, n, rfl, hr⟩ := hr
  cases ha
  refine zvt hr c hN ?_
  unfold Instr.makeMap
  simp only [Sem.run_bind]
  rw [run_underlying hu]
  exact run w
theorem zp3 {o : Oper} {t : TypeId} {x k : Operand} {ok : Bool} (ho : o.op = .lookup t x k ok) {f : T Value → Hp → R} (h : zmv P t ok x k = .op f) : BxOk P G o f := by
 have hx : x ∈ o.op.operands := by rw [ho]; simp [Op.operands]
 have hk : k ∈ o.op.operands := by rw [ho]; simp [Op.operands]
 have he : ∀ ev, execOp ev o = valN (Instr.lookup t (ev x) (ev k) ok) := fun ev => by unfold execOp; rw [ho]; rfl
 unfold zmv at h
 split at h <;> try (simp only [reduceCtorEq] at h)
 rename_i kt et hu
 split at h <;> try (simp only [reduceCtorEq] at h)
 rename_i d z hd hz
 cases hp : pl z with
 | false => rw [hp] at h; simp only [cond_false, reduceCtorEq] at h
 | true => rw [hp, cond_true] at h; exact bx2 (S := fun a b => valN (Instr.lookup t a b ok)) h (zvv hu hd hz hp) hx hk he
theorem zfd {o : Oper} {t : TypeId} {m k x : Operand} (ho : o.op = .mapUpdate t m k x ∨ o.op = .insert t m k x) {f : T Value → Hp → R} (h : zd5 P t m k x = .op f) : BxOk P G o f := by
 have hm : m ∈ o.op.operands := by rcases ho with ho | ho <;> (rw [ho]; simp [Op.operands])
 have hk : k ∈ o.op.operands := by rcases ho with ho | ho <;> (rw [ho]; simp [Op.operands])
 have hx : x ∈ o.op.operands := by rcases ho with ho | ho <;> (rw [ho]; simp [Op.operands])
 have he : ∀ ev, execOp ev o = uniN (Instr.mapUpdate t (ev m) (ev k) (ev x)) := fun ev => by
  rcases ho with ho | ho <;> (unfold execOp; rw [ho]; rfl)
 unfold zd5 at h
 split at h <;> try (simp only [reduceCtorEq] at h)
 rename_i kt et hu
 split at h <;> try (simp only [reduceCtorEq] at h)
 rename_i d hd
 exact bx3 (S := fun a b c => uniN (Instr.mapUpdate t a b c)) h (znt hu hd) hm hk hx he
theorem zw0 {o : Oper} {f : T Value → Hp → R} (h : bxOp P G o = .op f) : BxOk P G o f := by
 unfold bxOp at h
 split at h <;> rename_i ho <;> try (simp only [reduceCtorEq] at h)
 · exact bx1 h zqs (by rw [ho]; simp [Op.operands]) fun ev => by unfold execOp; rw [ho]
 · exact bx1 h zqs (by rw [ho]; simp [Op.operands]) fun ev => by unfold execOp; rw [ho]
 · exact bx3 h zye (by rw [ho]; simp [Op.operands]) (by rw [ho]; simp [Op.operands]) (by rw [ho]; simp [Op.operands]) fun ev => by unfold execOp; rw [ho]
 · exact zw4 ho h
 · exact ztp ho h
 · exact ztu ho h
 · exact bx1 h (yhb _) (by rw [ho]; simp [Op.operands]) fun ev => by unfold execOp; rw [ho]; rfl
 · exact ztt ho h
 · exact zj8 ho h
 · exact zkl ho h
 · exact zkn ho h
 · exact zkm ho h
 · exact ztq ho h
 · exact zts ho h
 · exact ztr ho h
 · exact bx1 h (zte _) (by rw [ho]; simp [Op.operands]) fun ev => by unfold execOp; rw [ho]; rfl
 · rename_i t x
   cases hn : zh7 P t with
   | false => rw [hn] at h; simp only [cond_false, reduceCtorEq] at h
   | true => rw [hn, cond_true] at h; exact bx1 h (zze hn) (by rw [ho]; simp [Op.operands]) fun ev => by unfold execOp; rw [ho]; rfl
 · exact zw2 ho h
 · exact bx1 h zlv (by rw [ho]; simp [Op.operands]) fun ev => by unfold execOp; rw [ho]; rfl
 · exact zom ho h
 · exact bx1 h ygh (by rw [ho]; simp [Op.operands]) fun ev => by unfold execOp; rw [ho]; rfl
 · exact yal ho h
 · exact yeb ho h
 · exact zol ho h
 · exact zp3 ho h
 · exact zfd (.inl ho) h
 · exact zfd (.inr ho) h
 · rename_i cl
   unfold zon at h
   split at h
   · obtain ⟨g, e1, _⟩ := zbv (β := CR) cl.args.toList
     unfold zcu at h; rw [e1] at h; cases h
   · rename_i f' _ _
     obtain ⟨g, e1, _⟩ := zbv (β := CR) (f' :: cl.args.toList)
     unfold zcu at h; rw [e1] at h; cases h
   · rename_i r n _
     obtain ⟨g, e1, _⟩ := zbv (β := CR) (r :: cl.args.toList)
     unfold zcu at h; rw [e1] at h; cases h
   · rename_i b hb
     exact zoo ho hb h
/-! Calls. -/
def CRel (P : Program) (G : Env) (hp : Hp) (ρ : Rho) (w : World) (cr : CR) (s : Sem Next) : Prop :=
 match cr with
 | .no => True
 | .val v hp' => hp' = hp ∧ Good P G hp hp ρ w v s
 | .enter f args => ∃ args', s.run P w = .ok (.enter f ⟨args'⟩) w ∧ LR ρ args args'
 | .yield l args => ρ.ok l ∧ ∃ args', LR ρ args args' ∧ s.run P w = (Instr.yield (ρ.blk l) ⟨args'⟩).run P w
 | .known f args v hp' => ∃ args', s.run P w = .ok (.enter f ⟨args'⟩) w ∧ LR ρ args args' ∧ ((∃ kf, G.known f = some kf ∧ kf args hp = .ok v hp') ∨ (hp' = hp ∧ Calls P f ⟨args'⟩ w fun e w' => (∃ v', (e = .returned v' ∧ VR ρ v v') ∨ ∃ u, v = panV u ∧ e = .panicked [{ v := v', recovered := false }] ∧ VR ρ u v') ∧ RowKit.Below w.heap.size w w'))
theorem zlh {f : FuncId} {args : List Value} {v : Value} : ∀ {l : List (FuncId × List Value × Value)}, zjp f args l = some v → ∃ x ∈ l, x.1 = f ∧ x.2.1 = args ∧ x.2.2 = v
 | [], h => by cases h
 | (g, as, u) :: l, h => by
  unfold zjp at h
  cases hc : andB (Nat.beq g f) (eq1s as args) with
  | false =>
   rw [hc] at h
   obtain ⟨x, h1, h2⟩ := zlh (l := l) h
   exact ⟨x, .tail _ h1, h2⟩
  | true =>
   rw [hc] at h
   cases h
   obtain ⟨h1, h2⟩ := za5 hc
   exact ⟨_, .head _, Nat.eq_of_beq_eq_true h1, zjz h2, rfl⟩
theorem zd4 {hp : Hp} {ρ : Rho} {w : World} {N : Nat} {f : FuncId} {args args' : List Value} (c : Ctx P G hp ρ w N) (hl : LR ρ args args') : CRel P G hp ρ w (zbm P G f args hp) (callFunc f ⟨args'⟩) := by
 unfold zbm
 cases hk : kindOf P f with
 | no => trivial
 | body =>
  have hrun : (callFunc f ⟨args'⟩).run P w = .ok (.enter f ⟨args'⟩) w := by
   unfold kindOf at hk
   split at hk
   · rename_i fn hf
     cases hn : zpn fn with
     | true => rw [hn] at hk; cases hk
     | false =>
      rw [hn, cond_false] at hk
      split at hk <;> try cases hk
      rename_i cc hb
      have hname : (fn.name == "runtime.NumGoroutine") = false := hn
      have hname' : ¬ fn.name = "runtime.NumGoroutine" := by simpa using hname
      show ((program >>= _) : Sem Next).run P w = _
      simp [program, Sem.run, hf, hname', hb]
   · cases hk
  have hent : CRel P G hp ρ w (.enter f args) (callFunc f ⟨args'⟩) := ⟨args', hrun, hl⟩
  show CRel P G hp ρ w (zvy G f args hp) _
  have htab : CRel P G hp ρ w (tabC G f args hp) (callFunc f ⟨args'⟩) := by
   unfold tabC
   cases ht : zjp f args G.tab with
   | none => exact hent
   | some v =>
    show CRel P G hp ρ w (pick (seen hp G.need) (.known f args v hp) (.enter f args)) _
    cases hse : seen hp G.need with
    | false => exact hent
    | true =>
     obtain ⟨x, hx, rfl, rfl, rfl⟩ := zlh ht
     obtain ⟨k1, k3⟩ := c.sat.known.tab x hx
     refine ⟨args', hrun, hl, .inr ⟨rfl, ?_⟩⟩
     rw [ziv k1 hl]
     refine (k3 w fun n hn => zl0 c.sat hse n hn).mono fun e w' ⟨he, hB⟩ => ⟨?_, hB⟩
     rcases he with ⟨k2, he⟩ | ⟨u, e1, k2, he⟩
     · exact ⟨_, .inl ⟨he, yaz k2⟩⟩
     · exact ⟨_, .inr ⟨u, e1, he, zus k2⟩⟩
  unfold zvy
  cases hkn : G.known f with
  | some kf =>
   show CRel P G hp ρ w (R.rec (motive := fun _ => CR) (tabC G f args hp) (fun v hp' => .known f args v hp') (kf args hp)) _
   cases hr : kf args hp with
   | no => exact htab
   | ok v hp' => exact ⟨args', hrun, hl, .inl ⟨kf, hkn, hr⟩⟩
  | none => exact htab
 | outside =>
  show CRel P G hp ρ w (zl5 P f args hp) _
  unfold zl5
  cases ha : zqb args with
  | false => trivial
  | true =>
   have := zmz ha hl
   subst this
   cases hv : zu6 P (callFunc f ⟨args'⟩) with
   | none => trivial
   | some v =>
    obtain ⟨h1, h2⟩ := zq7 hv
    exact ⟨rfl, _, v, ρ, w, zdv P _ _ w h1, .inl rfl, zpc h2, .refl c.sat⟩
theorem zqg {t : TypeId} {x x' : Value} {hp hp' : Hp} {v : Value} {ρ : Rho} {w : World} (c : Sat P G hp ρ w) (h : zlp P t x hp = .ok v hp') (hx : VR ρ x x') :
 hp' = hp ∧ ∃ v', (do loadVar t (← asAddr x') : Sem Value).run P w = .ok v' w ∧ VR ρ v v' := by
 unfold zlp at h
 cases hk : zc5 P t with
 | agg n =>
  rw [hk] at h
  replace h : zfq n x hp = .ok v hp' := h
  replace h := zb4 h
  obtain ⟨b, o, rfl, h⟩ := h
  replace h := zcz h
  obtain ⟨ct, hv, h⟩ := h
  replace h := zaq h
  obtain ⟨l, hl, h⟩ := h
  cases h
  cases hx
  obtain ⟨hok, hread⟩ := zbn c hv
  obtain ⟨l', h1, h2, h3, h4⟩ := zf1 (P := P) hread hl
  refine ⟨rfl, .agg l'.toArray, ?_, .agg l l' h3 h1⟩
  rw [Sem.run_bind]
  show (loadVar t _).run P w = _
  unfold loadVar
  rw [Sem.run_bind, zdj (zcr hk).1]
  simp only [Result.andThen_ok, if_true]
  rw [Sem.run_bind, za2 (zcr hk).2]
  simp only [Result.andThen_ok]
  rw [Sem.run_bind, h4]
  rfl
 | one =>
  rw [hk] at h
  replace h : zfp x hp = .ok v hp' := h
  replace h := zb4 h
  obtain ⟨b, o, rfl, h⟩ := h
  replace h := zcz h
  obtain ⟨ct, hv, h⟩ := h
  replace h := zaq h
  obtain ⟨u, hl, h⟩ := h
  cases h
  cases hx
  obtain ⟨hok, hread⟩ := zbn c hv
  obtain ⟨_, v', h1, h2⟩ := hread o v hl
  refine ⟨rfl, v', ?_, h2⟩
  rw [Sem.run_bind]
  show (loadVar t _).run P w = _
  unfold loadVar
  rw [Sem.run_bind, zdj (ze2 hk).1]
  simp only [Result.andThen_ok, Bool.false_eq_true, if_false]
  rw [run_load, h1]
 | bad => rw [hk] at h; cases h
theorem CRel.run1 {hp : Hp} {ρ : Rho} {w : World} {cr : CR} {s s' : Sem Next} (e : s'.run P w = s.run P w) (h : CRel P G hp ρ w cr s) : CRel P G hp ρ w cr s' := by
 cases cr with
 | no => trivial
 | val u q =>
  obtain ⟨e', nx, v1, ρ1, w1, g1, g2⟩ := h
  exact ⟨e', nx, v1, ρ1, w1, e.trans g1, g2⟩
 | enter g args =>
  obtain ⟨a', g1, g2⟩ := h
  exact ⟨a', e.trans g1, g2⟩
 | yield l args =>
  obtain ⟨g0, a', g1, g2⟩ := h
  exact ⟨g0, a', g1, e.trans g2⟩
 | known f args v hp' =>
  obtain ⟨a', g1, g2⟩ := h
  exact ⟨a', e.trans g1, g2⟩
theorem zs0 (r : R) (k : Value → CR) : onRC r k = .no ∨ ∃ u q, r = .ok u q ∧ onRC r k = k u := by
 cases r with
 | no => exact .inl rfl
 | ok u q => exact .inr ⟨u, q, rfl, rfl⟩
theorem zis {t : TypeId} {ptr : Bool} {v v' : Value} {hp : Hp} {ρ : Rho} {w : World} (c : Sat P G hp ρ w) (hv : VR ρ v v') (k : Value → CR) :
 zc7 P t ptr v hp k = .no ∨ ∃ u u', zc7 P t ptr v hp k = k u ∧ VR ρ u u' ∧ ∀ wr, (receiverAt t (.val v') ptr wr).run P w = .ok u' w := by
 have same : ∀ d, P.underlying t = some d → (match d, ptr with | .pointer _, false => False | .pointer _, true => True | _, true => False | _, false => True) → ∀ wr, (receiverAt t (.val v') ptr wr).run P w = .ok v' w := by
  intro d hu hd wr
  unfold receiverAt
  rw [Sem.run_bind, run_underlying hu]
  simp only [Result.andThen_ok]
  cases d <;> cases ptr <;> first | exact hd.elim | rfl
 unfold zc7
 cases hk : zxw P t ptr with
 | no => exact .inl rfl
 | same =>
  refine .inr ⟨v, v', rfl, hv, ?_⟩
  unfold zxw at hk
  cases hu : P.underlying t with
  | none => rw [hu] at hk; cases ptr <;> cases hk
  | some d =>
   rw [hu] at hk
   refine same d hu ?_
   cases d <;> cases ptr <;> first | (cases hk; done) | trivial
 | load e =>
  show onRC (zlp P e v hp) k = .no ∨ ∃ u u', onRC (zlp P e v hp) k = k u ∧ _
  rcases zs0 (zlp P e v hp) k with h | ⟨u, q, h1, h2⟩
  · exact .inl h
  · obtain ⟨_, u', g1, g2⟩ := zqg c h1 hv
    refine .inr ⟨u, u', h2, g2, fun wr => ?_⟩
    unfold zxw at hk
    cases hu : P.underlying t with
    | none => rw [hu] at hk; cases ptr <;> cases hk
    | some d =>
     rw [hu] at hk
     have hd : d = .pointer e ∧ ptr = false := by
      cases d <;> cases ptr <;> first | (cases hk; done) | (cases hk; exact ⟨rfl, rfl⟩)
     obtain ⟨rfl, rfl⟩ := hd
     unfold receiverAt
     rw [Sem.run_bind, run_underlying hu]
     simp only [Result.andThen_ok, Place.get, Sem.run_bind, Sem.run_pure]
     have hptr : ∃ a, v' = .pointer (some a) := by
      have h3 := h1
      unfold zlp at h3
      cases hkd : zc5 P e with
      | bad => rw [hkd] at h3; cases h3
      | agg n =>
       rw [hkd] at h3
       replace h3 : zfq n v hp = .ok u q := h3
       obtain ⟨b, o, rfl, _⟩ := zb4 h3
       cases hv; exact ⟨_, rfl⟩
      | one =>
       rw [hkd] at h3
       replace h3 : zfp v hp = .ok u q := h3
       obtain ⟨b, o, rfl, _⟩ := zb4 h3
       cases hv; exact ⟨_, rfl⟩
     obtain ⟨a, rfl⟩ := hptr
     rw [Sem.run_bind] at g1
     cases wr with
     | none => simpa [Sem.run_bind, Sem.run_pure] using g1
     | some name =>
      have hw : (Builtin.ssaWrapNilChk_ #[t] t #[.pointer (some a), strVal "", strVal name]).run P w = .ok (.pointer (some a)) w := rfl
      simp only [Sem.run_bind]
      rw [hw]
      exact g1
theorem zs6 {t : TypeId} {name : String} {f : FuncId} {ptr : Bool} (hm : methodOf P t name = .ok f ptr) (v u : Value) (fuel : Nat) (w : World) (hr : ∀ wr, (receiverAt t (.val v) ptr wr).run P w = .ok u w) : (method (fuel + 1) t v name).run P w = .ok (f, u) w := by
 unfold methodOf at hm
 split at hm <;> try cases hm
 rename_i inf hi
 split at hm <;> try cases hm
 rename_i m hfind
 split at hm <;> try cases hm
 rename_i f' ptr' hpath hfunc
 have hfind' : inf.methods.find? (·.name == name) = some m := by rw [← Array.find?_toList]; exact hfind
 unfold method
 rw [Sem.run_bind, run_typeInfo _ hi]
 simp only [Result.andThen_ok, hfind']
 rw [Sem.run_bind, hpath]
 simp only [follow, Sem.run_pure, Result.andThen_ok, hfunc]
 rw [Sem.run_bind, hr]
 rfl
theorem zgj {hp : Hp} {ρ : Rho} {w : World} {N : Nat} {t : TypeId} {v v' : Value} {name : String} {rest rest' : List Value} (c : Ctx P G hp ρ w N) (hv : VR ρ v v') (hl : LR ρ rest rest') :
 CRel P G hp ρ w (zgn P G t v name rest hp) (callMethod (.iface t v') name ⟨rest'⟩) := by
 unfold zgn
 cases hm : methodOf P t name with
 | no => trivial
 | ok f ptr =>
  show CRel P G hp ρ w (zc7 P t ptr v hp fun v => zbm P G f (v :: rest) hp) _
  rcases zis (t := t) (ptr := ptr) c.sat hv (fun v => zbm P G f (v :: rest) hp) with e | ⟨u, u', e, hu, hr⟩
  · rw [e]; trivial
  · rw [e]
    have h1 := zd4 (f := f) c (LR.cons _ _ _ _ hu hl)
    refine CRel.run1 ?_ h1
    unfold callMethod
    rw [Sem.run_bind]
    simp only [program, Sem.run, Result.andThen_ok]
    rw [Sem.run_bind, show P.types.size + Made.depth = (P.types.size + 99) + 1 from rfl, zs6 hm v' u' _ w hr]
    simp only [Result.andThen_ok]
    congr 2
    all_goals (apply Array.ext'; simp)
end Go.Proofs.YtelanmknimapoaaGreatDoor.Sx
/- An executor of closed runs: calls. -/
namespace Go.Proofs.YtelanmknimapoaaGreatDoor.Sx
open Go
variable {P : Program} {G : Env}
theorem CRel.run {hp : Hp} {ρ : Rho} {w : World} {cr : CR} {s s' : Sem Next} (e : ∀ w, s'.run P w = s.run P w) (h : CRel P G hp ρ w cr s) : CRel P G hp ρ w cr s' := by
 cases cr with
 | no => trivial
 | val u q =>
  obtain ⟨e', nx, v1, ρ1, w1, g1, g2⟩ := h
  exact ⟨e', nx, v1, ρ1, w1, (e w).trans g1, g2⟩
 | enter g args =>
  obtain ⟨a', g1, g2⟩ := h
  exact ⟨a', (e w).trans g1, g2⟩
 | yield l args =>
  obtain ⟨g0, a', g1, g2⟩ := h
  exact ⟨g0, a', g1, (e w).trans g2⟩
 | known f args v hp' =>
  obtain ⟨a', g1, g2⟩ := h
  exact ⟨a', (e w).trans g1, g2⟩
theorem zen (v : Value) (l : List Value) : (⟨v :: l⟩ : Array Value).extract 1 (⟨v :: l⟩ : Array Value).size = ⟨l⟩ := by
 apply Array.ext'
 simp
theorem zdb {hp : Hp} {ρ : Rho} {w : World} {N : Nat} {name : String} {r r' : Value} {rest rest' : List Value} (c : Ctx P G hp ρ w N) (hv : VR ρ r r') (hl : LR ρ rest rest') :
 CRel P G hp ρ w (zl8 r .no .no fun t v => zgn P G t v name rest hp) (callMethod r' name ⟨rest'⟩) := by
 cases hv <;> try trivial
 rename_i t v v' hv
 exact zgj c hv hl
theorem zfa {hp : Hp} {ρ : Rho} {w : World} {N : Nat} {name : String} {cap : Array Value} {args args' : List Value} (c : Ctx P G hp ρ w N) (hl : LR ρ args args') :
 CRel P G hp ρ w (zca P G name args hp) (invoke (.fn (.method name) cap) ⟨args'⟩) := by
 cases hl with
 | nil => trivial
 | cons r r' l l' hr hl =>
  refine CRel.run (s := callMethod r' name ⟨l'⟩) (fun w => ?_) (zdb c hr hl)
  show (callMethod r' name (Array.extract ⟨r' :: l'⟩ 1 _)).run P w = _
  rw [zen]
theorem zpb {t : TypeId} {ptr : Bool} {v u : Value} {w : World} (hr : ∀ wr, (receiverAt t (.val v) ptr wr).run P w = .ok u w) : (receiverVia t v #[] ptr).run P w = .ok u w := by
 unfold receiverVia
 rw [Sem.run_bind]
 simp only [follow, Sem.run_pure, Result.andThen_ok]
 exact hr none
theorem zsd {hp : Hp} {ρ : Rho} {w : World} {N : Nat} {fn : Fn} {cap cap' args args' : List Value} (c : Ctx P G hp ρ w N) (hy : zpf fn = true) (hc : LR ρ cap cap') (hl : LR ρ args args') :
 CRel P G hp ρ w (zgq P G fn cap args hp) (invoke (.fn fn ⟨cap'⟩) ⟨args'⟩) := by
 cases fn with
 | func f =>
  refine CRel.run (s := callFunc f ⟨args' ++ cap'⟩) (fun w => ?_) (zd4 (f := f) c (hl.append hc))
  show (callFunc f (⟨args'⟩ ++ ⟨cap'⟩)).run P w = _
  congr 2
  apply Array.ext'; simp
 | method name => exact zfa c hl
 | methodOf t name =>
  cases hl with
  | nil => trivial
  | cons r r' l l' hr hl =>
   show CRel P G hp ρ w (match P.underlying t with
    | some (.interface _) => zca P G name (r :: l) hp
    | some _ => zgn P G t r name l hp
    | none => .no) _
   have he : ∀ (d : TypeDesc), P.underlying t = some d → ∀ w, (invoke (.fn (.methodOf t name) ⟨cap'⟩) ⟨r' :: l'⟩).run P w = (callMethod (match d with | .interface _ => r' | _ => .iface t r') name ⟨l'⟩).run P w := fun d hd w => by
    show ((underlying t >>= fun d => callMethod (match d with | .interface _ => r' | _ => .iface t r') name (Array.extract ⟨r' :: l'⟩ 1 _)) : Sem Next).run P w = _
    rw [Sem.run_bind, run_underlying hd, Result.andThen_ok, zen]
   cases hu : P.underlying t with
   | none => trivial
   | some d =>
    have h1 := zdb (name := name) c hr hl
    have h2 := zgj (t := t) (name := name) c hr hl
    cases d <;> first
     | exact CRel.run (he _ hu) h2
     | exact CRel.run (he _ hu) h1
 | via t path f ptr =>
  cases hp0 : path.toList with
  | cons a b =>
   have : zgq P G (.via t path f ptr) cap args hp = .no := by unfold zgq; simp only [hp0]
   rw [this]; trivial
  | nil =>
   have hpath : path = #[] := by apply Array.ext'; rw [hp0]
   have e1 : zgq P G (.via t path f ptr) cap args hp = zk0 args fun r rest => zc7 P t ptr r hp fun r => zbm P G f (r :: rest) hp := by unfold zgq; simp only [hp0]
   rw [e1]
   cases hl with
   | nil => trivial
   | cons r r' l l' hr hl =>
    show CRel P G hp ρ w (zc7 P t ptr r hp fun r => zbm P G f (r :: l) hp) _
    rcases zis (t := t) (ptr := ptr) c.sat hr (fun r => zbm P G f (r :: l) hp) with e | ⟨u, u', e, hu, hrr⟩
    · rw [e]; trivial
    · rw [e]
      refine CRel.run1 (s := callFunc f ⟨u' :: l'⟩) ?_ (zd4 (f := f) c (LR.cons _ _ _ _ hu hl))
      show ((receiverVia t r' path ptr >>= fun x => callFunc f (#[x] ++ Array.extract ⟨r' :: l'⟩ 1 _)) : Sem Next).run P w = _
      rw [Sem.run_bind, hpath, zpb hrr, Result.andThen_ok, zen]
      congr 2
      apply Array.ext'; simp
 | yield l => cases hy
def ztn (f : Value) (args : Array Value) : Sem Next := do let d ← Deferred.ofValue f args; invoke d.target d.args
theorem zm6 {hp : Hp} {ρ : Rho} {w : World} {N : Nat} {f f' : Value} {args args' : List Value} (c : Ctx P G hp ρ w N) (hf : VR ρ f f') (hl : LR ρ args args') :
 CRel P G hp ρ w (zqj P G f args hp) (ztn f' ⟨args'⟩) := by
 cases hf <;> try trivial
 · rename_i fn a b a' b' hy ha hb
   refine CRel.run (s := invoke (.fn fn ⟨b'⟩) ⟨a' ++ args'⟩) (fun w => ?_) (zsd c hy hb (ha.append hl))
   show (invoke (.fn fn ⟨b'⟩) (⟨a'⟩ ++ ⟨args'⟩)).run P w = _
   congr 2
   apply Array.ext'; simp
 · rename_i l hok
   refine ⟨hok, args', hl, ?_⟩
   show (Instr.yield (ρ.blk l) (#[] ++ ⟨args'⟩)).run P w = _
   congr 2
   apply Array.ext'; simp
theorem zdx {x : Operand} {F : Value → Hp → R} {f : T Value → Hp → CR} (h : op1 x F = .call f) : False := by
 obtain ⟨g, e, _⟩ := ya8 x F
 rw [e] at h; cases h
theorem zfi {x y : Operand} {F : Value → Value → Hp → R} {f : T Value → Hp → CR} (h : op2 x y F = .call f) : False := by
 obtain ⟨g, e, _⟩ := ya7 x y F
 rw [e] at h; cases h
theorem zlr (b : Builtin) (ts : List TypeId) (xs : List Operand) (f : T Value → Hp → CR) : zj4 P b ts xs ≠ .call f := by
 intro h
 unfold zj4 at h
 split at h
 · split at h
   · split at h
     · rename_i zl _
       cases hc : Nat.ble 1 zl.length with
       | false => rw [hc] at h; cases h
       | true => rw [hc, cond_true] at h; exact zdx h
     · cases h
   · cases h
 · split at h
   · split at h
     · exact zfi h
     · cases h
   · cases h
 · split at h
   · split at h
     · exact zfi h
     · cases h
   · cases h
 · cases h
theorem zj9 (o : Oper) (b : Builtin) (ts : List TypeId) (xs : List Operand) (f : T Value → Hp → CR) : zep P o b ts xs ≠ .call f := by
 intro h
 unfold zep at h
 split at h
 · split at h
   · split at h
     · rename_i size inf zl _ _ _
       cases hc : (Nat.ble inf.bytes 4096 && Nat.beq zl.length size) with
       | false => rw [hc] at h; cases h
       | true => rw [hc, cond_true, zar] at h; exact zfi h
     · cases h
   · cases h
 · unfold yaj at h
   split at h
   · exact zdx h
   · exact zdx h
   · cases h
   · split at h <;> cases h
   · exact zdx h
   · cases h
 · cases h
 · cases h
 · exact zlr _ _ _ _ h
def ybn (P : Program) (G : Env) (o : Oper) (f : T Value → Hp → CR) : Prop :=
 ∀ tm hp ρ w N ev, Ctx P G hp ρ w N → (∀ x ∈ o.op.operands, VR ρ (evA tm x) (ev x)) → (∀ f, ev (.func f) = .func (.func f) #[] #[]) → CRel P G hp ρ w (f tm hp) (execOp ev o)
theorem zw6 {o : Oper} {cl : Call} (ho : o.op = .call cl) {f : T Value → Hp → CR} (h : zon P G o cl = .call f) : ybn P G o f := by
 unfold zon at h
 split at h
 · rename_i g hcal
   obtain ⟨k, e1, e2⟩ := zbv (β := CR) cl.args.toList
   unfold zcu at h
   rw [e1] at h
   cases h
   intro tm hp ρ w N ev c hev hfn
   show CRel P G hp ρ w (k tm fun args => zbm P G g args hp) _
   rw [e2]
   have hl := zns (l := cl.args.toList) fun x hx => hev x (by rw [ho]; simp [Op.operands, Call.operands, hcal]; right; simpa using hx)
   refine CRel.run (s := callFunc g ⟨cl.args.toList.map ev⟩) (fun w => ?_) (zd4 (f := g) c hl)
   unfold execOp
   rw [ho]
   show ((resolve ev cl o.type >>= fun d => invoke d.target d.args) : Sem Next).run P w = _
   unfold resolve
   rw [hcal]
   show (ztn (ev (.func g)) (cl.args.map ev)).run P w = _
   rw [hfn]
   show (callFunc g ((#[] ++ cl.args.map ev) ++ #[])).run P w = _
   congr 2
   apply Array.ext'; simp
 · rename_i g _ hcal
   obtain ⟨k, e1, e2⟩ := zbv (β := CR) (g :: cl.args.toList)
   unfold zcu at h
   rw [e1] at h
   cases h
   intro tm hp ρ w N ev c hev hfn
   show CRel P G hp ρ w (k tm fun l => zk0 l fun f args => zqj P G f args hp) _
   rw [e2]
   have hl := zns (l := cl.args.toList) fun x hx => hev x (by rw [ho]; simp [Op.operands, Call.operands, hcal]; right; simpa using hx)
   have hg := hev g (by rw [ho]; simp [Op.operands, Call.operands, hcal])
   refine CRel.run (s := ztn (ev g) ⟨cl.args.toList.map ev⟩) (fun w => ?_) (zm6 c hg hl)
   unfold execOp
   rw [ho]
   show ((resolve ev cl o.type >>= fun d => invoke d.target d.args) : Sem Next).run P w = _
   unfold resolve
   rw [hcal]
   show (ztn (ev g) (cl.args.map ev)).run P w = _
   congr 2
   apply Array.ext'; simp
 · rename_i r name hcal
   obtain ⟨k, e1, e2⟩ := zbv (β := CR) (r :: cl.args.toList)
   unfold zcu at h
   rw [e1] at h
   cases h
   intro tm hp ρ w N ev c hev hfn
   show CRel P G hp ρ w (k tm fun args => zca P G name args hp) _
   rw [e2]
   have hl := zns (l := r :: cl.args.toList) fun x hx => hev x (by rw [ho]; simp [Op.operands, Call.operands, hcal]; simpa using hx)
   refine CRel.run (s := invoke (.fn (.method name) #[]) ⟨(r :: cl.args.toList).map ev⟩) (fun w => ?_) (zfa c hl)
   unfold execOp
   rw [ho]
   show ((resolve ev cl o.type >>= fun d => invoke d.target d.args) : Sem Next).run P w = _
   unfold resolve
   rw [hcal]
   show (invoke (.fn (.method name) #[]) (#[ev r] ++ cl.args.map ev)).run P w = _
   congr 2
   apply Array.ext'; simp
 · exact absurd h (zj9 _ _ _ _ _)
theorem zg2 {l : List Operand} (h : zf6 G l = true) : ∀ x ∈ l, ze7 G x = true := by
 induction l with
 | nil => intro x hx; cases hx
 | cons y l ih =>
  unfold zf6 at h
  cases hy : ze7 G y with
  | false => rw [hy] at h; cases h
  | true =>
   rw [hy, cond_true] at h
   intro x hx
   cases hx with
   | head => exact hy
   | tail _ hx => exact ih h x hx
theorem zvn {b : Bx} {f : T Value → Hp → R} (h : zvo b = .op f) : b = .op f := by cases b <;> first | exact h | cases h
theorem zph {b : Bx} {f : T Value → Hp → CR} (h : zvo b = .call f) : False := by cases b <;> cases h
theorem zwi {o : Oper} {b : Bx} {f : T Value → Hp → R} (h : zhq G o b = .op f) : ∃ g, b = .op g ∧ (f = g ∨ f = fun tm hp => ztf (g tm hp) (ydy G o tm hp)) := by
 unfold zhq at h
 generalize G.facts = l at h
 cases l with
 | nil => exact ⟨f, h, .inl rfl⟩
 | cons F l =>
  cases b with
  | op g => cases h; exact ⟨g, rfl, .inr rfl⟩
  | call g => cases h
  | bad => cases h
theorem zpu {o : Oper} {b : Bx} {f : T Value → Hp → CR} (h : zhq G o b = .call f) : b = .call f := by
 unfold zhq at h
 generalize G.facts = l at h
 cases l with
 | nil => exact h
 | cons F l =>
  cases b with
  | op g => cases h
  | call g => exact h
  | bad => cases h
theorem ztd {o : Oper} : zhq G o .bad = .bad := by
 unfold zhq
 generalize G.facts = l
 cases l <;> rfl
theorem zwj {o : Oper} {b : Bx} {f : T Value → Hp → R} (h : zhq G o b = .op f) (hb : ∀ g, b = .op g → BxOk P G o g) : BxOk P G o f := by
 obtain ⟨g, h1, h2⟩ := zwi h
 rcases h2 with rfl | rfl
 · exact hb _ h1
 · intro tm hp v hp' hr ρ w N ev c hev hN
   rcases zic hr with hr | hr
   · exact hb g h1 tm hp v hp' hr ρ w N ev c hev hN
   · exact zz0 tm hp v hp' hr ρ w N ev c hev hN
theorem zw1 {o : Oper} {f : T Value → Hp → R} (h : bxOf P G o = .op f) : (∀ x ∈ o.op.operands, ze7 G x = true) ∧ BxOk P G o f := by
 unfold bxOf at h
 cases hk : zf6 G o.op.operands.toList with
 | false => rw [hk] at h; cases h
 | true =>
  rw [hk, cond_true] at h
  refine ⟨fun x hx => zg2 hk x (by simpa using hx), zwj h fun f h => ?_⟩
  unfold yam at h
  split at h
  · rename_i c hc
    exact zw0 (by unfold bxOp; rw [hc]; exact h)
  · exact zw0 (zvn h)
theorem zj5 {o : Oper} {f : T Value → Hp → CR} (h : bxOf P G o = .call f) : (∀ x ∈ o.op.operands, ze7 G x = true) ∧ (∃ c, o.op = .call c) ∧ ybn P G o f := by
 unfold bxOf at h
 cases hk : zf6 G o.op.operands.toList with
 | false => rw [hk] at h; cases h
 | true =>
  rw [hk, cond_true] at h
  refine ⟨fun x hx => zg2 hk x (by simpa using hx), ?_⟩
  replace h := zpu h
  unfold yam at h
  split at h
  · rename_i c hc
    exact ⟨⟨c, hc⟩, zw6 hc h⟩
  · exact (zph h).elim
end Go.Proofs.YtelanmknimapoaaGreatDoor.Sx
/- An executor of closed runs: frames. -/
namespace Go.Proofs.YtelanmknimapoaaGreatDoor.Sx
open Go
variable {P : Program} {G : Env}
def yaw (P : Program) (G : Env) (hp hp' : Hp) (ρ : Rho) (w : World) (v : Value) (e : Ending) (w' : World) : Prop :=
 ∃ v' ρ', Post P G hp hp' ρ ρ' w w' ∧ ((e = .returned v' ∧ VR ρ' v v') ∨ ∃ u, v = panV u ∧ e = .panicked [{ v := v', recovered := false }] ∧ VR ρ' u v')
def KnownOk (P : Program) (G : Env) (sy : Nat → Value) (bl : Nat → Nat) (ob : Nat → Obj) : Prop := ∀ f kf, G.known f = some kf → ∀ args hp v hp', kf args hp = .ok v hp' → ∀ ρ w args', ρ.sym = sy → (∀ n ∈ G.need, ρ.blk n = bl n ∧ ρ.obj n = ob n) → Sat P G hp ρ w → (∀ n, hp.next ≤ n → ¬ ρ.ok n) → LR ρ args args' →
 Calls P f ⟨args'⟩ w fun e w' => yaw P G hp hp' ρ w v e w'
theorem KnownOk.mono {ρ ρ' : Rho} (h : KnownOk P G ρ.sym ρ.blk ρ.obj) (le : ρ.Le ρ') (hn : ∀ n ∈ G.need, ρ.ok n) : KnownOk P G ρ'.sym ρ'.blk ρ'.obj := by
 intro f kf hf args hp v hp' h1 r w args' hsy hob
 exact h f kf hf args hp v hp' h1 r w args' (hsy.trans le.sym) (fun n hm => ⟨(hob n hm).1.trans (le.blk n (hn n hm)), (hob n hm).2.trans (le.obj n (hn n hm))⟩)
structure CtxA (P : Program) (G : Env) (hp : Hp) (ρ : Rho) (w : World) : Prop where
 sat : Sat P G hp ρ w
 fresh : ∀ n, hp.next ≤ n → ¬ ρ.ok n
 known : KnownOk P G ρ.sym ρ.blk ρ.obj
theorem Post.below {hp : Hp} {ρ : Rho} {w w' : World} (hs : Sat P G hp ρ w) (hB : RowKit.Below w.heap.size w w') : Post P G hp hp ρ ρ w w' := by
 refine ⟨⟨fun n o hn => ?_, hs.inj, hs.lt, hs.lim, hs.glob, hs.needok, hs.known⟩, .refl ρ, fun n h => .inl h, fun n h1 h2 => absurd h2 (Nat.not_lt.2 h1), fun n h1 h2 => absurd h2 (Nat.not_lt.2 h1), Nat.le_refl _, rfl, rfl, fun _ _ => rfl, fun _ _ _ => rfl, fun _ h => h, fun _ h => .inl h, hB.size,
  fun b hb _ => hB.block b hb, fun n h1 h2 => absurd h2 (Nat.not_lt.2 h1), hB.os, hB.tape, hB.output⟩
 obtain ⟨h1, h2, h3⟩ := hs.vis n o hn
 exact ⟨h1, Nat.lt_of_lt_of_le h2 hB.size, h3.mono h1 (.refl ρ) (hB.block _ h2)⟩
theorem CtxA.ctx {hp : Hp} {ρ : Rho} {w : World} (c : CtxA P G hp ρ w) (N : Nat) : Ctx P G hp ρ w N := ⟨c.sat, fun n h _ => c.fresh n h⟩
theorem CtxA.after {hp hp' : Hp} {ρ ρ' : Rho} {w w' : World} (c : CtxA P G hp ρ w) (p : Post P G hp hp' ρ ρ' w w') : CtxA P G hp' ρ' w' :=
 ⟨p.sat, fun n hn h => by
  rcases p.new n h with h | h
  · exact c.fresh n (Nat.le_trans p.next hn) h
  · omega, c.known.mono p.ext c.sat.needok⟩
inductive IR (ρ : Rho) : AItem → Item → Prop
 | code (c : Code) : IR ρ (.code c) (.code c)
 | inBlock (id : Nat) : IR ρ (.inBlock id) (.inBlock id)
 | inLoop (b : Code) : IR ρ (.inLoop b) (.inLoop b)
 | inScope (b : Code) : IR ρ (.inScope b) (.inScope b)
 | ops (all : Array Oper) (l : List Oper) (is : List Nat) : l.map some = is.map (fun i => all[i]?) → IR ρ (.ops all l) (.inRegion all is)
 | beginRound : IR ρ .beginRound .beginRound
 | endRange (l : Nat) : ρ.ok l → IR ρ (.endRange l) (.endRangeFunc (ρ.blk l))
inductive TR (ρ : Rho) : List AItem → List Item → Prop
 | nil : TR ρ [] []
 | cons (x : AItem) (y : Item) (k : List AItem) (k' : List Item) : IR ρ x y → TR ρ k k' → TR ρ (x :: k) (y :: k')
theorem IR.mono {ρ ρ' : Rho} (le : ρ.Le ρ') {x : AItem} {y : Item} (h : IR ρ x y) : IR ρ' x y := by
 cases h with
 | endRange l hl => rw [← le.blk l hl]; exact .endRange l (le.ok l hl)
 | ops all l is h => exact .ops all l is h
 | _ => constructor
theorem TR.mono {ρ ρ' : Rho} (le : ρ.Le ρ') {k : List AItem} {k' : List Item} (h : TR ρ k k') : TR ρ' k k' := by
 induction h with
 | nil => exact .nil
 | cons x y k k' h _ ih => exact .cons x y k k' (h.mono le) ih
theorem zsf {ρ : Rho} {id : Nat} {k : List AItem} {k' : List Item} (h : TR ρ k k') :
 (zed id k = none → exitTo id k' = none) ∧ ∀ k1, zed id k = some k1 → ∃ k1', exitTo id k' = some k1' ∧ TR ρ k1 k1' := by
 induction h with
 | nil => exact ⟨fun _ => rfl, fun k1 h => by cases h⟩
 | cons x y k k' hx hk ih =>
  cases hx with
  | inBlock id' =>
   show (cond (Nat.beq id' id) (some k) (zed id k) = none → (if id' == id then some k' else exitTo id k') = none) ∧ ∀ k1, cond (Nat.beq id' id) (some k) (zed id k) = some k1 → ∃ k1', (if id' == id then some k' else exitTo id k') = some k1' ∧ TR ρ k1 k1'
   by_cases e : id' = id
   · subst e
     simp only [beq_self_eq_true, if_true]
     have : Nat.beq id' id' = true := Nat.beq_refl id'
     rw [this, cond_true]
     exact ⟨fun h => (by cases h), fun k1 h => by cases h; exact ⟨k', rfl, hk⟩⟩
   · have : Nat.beq id' id = false := by
      cases hb : Nat.beq id' id with
      | false => rfl
      | true => exact absurd (Nat.eq_of_beq_eq_true hb) e
     rw [this, cond_false]
     have e2 : (id' == id) = false := by simpa using e
     rw [e2]
     exact ih
  | _ => exact ih
theorem zse {ρ : Rho} {l : Nat} {k : List AItem} {k' : List Item} (h : TR ρ k k') :
 (zgr l k = none → gotoIn l k' = none) ∧ ∀ k1, zgr l k = some k1 → ∃ k1', gotoIn l k' = some k1' ∧ TR ρ k1 k1' := by
 induction h with
 | nil => exact ⟨fun _ => rfl, fun k1 h => by cases h⟩
 | cons x y k k' hx hk ih =>
  cases hx with
  | inScope body =>
   unfold zgr gotoIn
   cases hf : findLabel body l with
   | none => exact ih
   | some rest => exact ⟨fun h => (by cases h), fun k1 h => by cases h; exact ⟨_, rfl, .cons _ _ _ _ (.code _) (.cons _ _ _ _ (.inScope _) hk)⟩⟩
  | _ => exact ih
def zho (ρ : Rho) (d : Nat) : Deferred := { target := .collected (ρ.blk d), args := #[] }
inductive DfR (ρ : Rho) : Df → Deferred → Prop
 | mark (d : Nat) : ρ.ok d → DfR ρ (.mark d) (zho ρ d)
 | call (f : FuncId) (args cap args' cap' : List Value) : LR ρ args args' → LR ρ cap cap' → DfR ρ (.call f args cap) { target := .fn (.func f) ⟨cap'⟩, args := ⟨args'⟩ }
inductive DsR (ρ : Rho) : List Df → List Deferred → Prop
 | nil : DsR ρ [] []
 | cons (x : Df) (y : Deferred) (l : List Df) (l' : List Deferred) : DfR ρ x y → DsR ρ l l' → DsR ρ (x :: l) (y :: l')
theorem DfR.mono {ρ ρ' : Rho} (le : ρ.Le ρ') {x : Df} {y : Deferred} (h : DfR ρ x y) : DfR ρ' x y := by
 cases h with
 | mark d hd =>
  have e : zho ρ d = zho ρ' d := by unfold zho; rw [le.blk d hd]
  rw [e]; exact .mark d (le.ok d hd)
 | call f a c a' c' h1 h2 => exact .call f a c a' c' (h1.mono le) (h2.mono le)
theorem DsR.mono {ρ ρ' : Rho} (le : ρ.Le ρ') {x : List Df} {y : List Deferred} (h : DsR ρ x y) : DsR ρ' x y := by
 induction h with
 | nil => exact .nil
 | cons x y l l' h _ ih => exact .cons x y l l' (h.mono le) ih
def zeu (S : St) : Prop := S.ro ≠ none ∨ S.kd = true
structure FS (P : Program) (ρ : Rho) (S : St) (dfs : List Df) (tm : T Value) (b : Frame) (a : Act) : Prop where
 fn : b.fn = S.fn
 kind : b.kind = cond S.kd .deferred .normal
 ro : b.roundOf = S.ro.map ρ.blk
 rook : ∀ l, S.ro = some l → ρ.ok l ∧ S.kd = false
 tm : tmR ρ tm S.sz a.tmps
 defers : DsR ρ dfs a.defers
 res : S.ro = none → ∃ fn, P.funcs[S.fn]? = some fn ∧ fn.results.toList = S.res
theorem FS.kindN {ρ : Rho} {S : St} {dfs : List Df} {tm : T Value} {b : Frame} {a : Act} (h : FS P ρ S dfs tm b a) (hro : b.roundOf ≠ none) : b.kind = .normal := by
 rw [h.kind]
 cases hr : S.ro with
 | none => rw [h.ro, hr] at hro; exact absurd rfl hro
 | some l => rw [(h.rook l hr).2]; rfl
theorem FS.mono {ρ ρ' : Rho} {S : St} {dfs : List Df} {tm : T Value} {b : Frame} {a : Act} (h : FS P ρ S dfs tm b a) (le : ρ.Le ρ') : FS P ρ' S dfs tm b a := by
 refine ⟨h.fn, h.kind, ?_, fun l hl => ⟨le.ok l (h.rook l hl).1, (h.rook l hl).2⟩, h.tm.mono le, h.defers.mono le, h.res⟩
 rw [h.ro]
 cases hs : S.ro with
 | none => rfl
 | some l => simp [le.blk l (h.rook l hs).1]
theorem FS.eval {hp : Hp} {w : World} {ρ : Rho} {S : St} {dfs : List Df} {tm : T Value} {b : Frame} {a : Act} (h : FS P ρ S dfs tm b a) (c : Sat P G hp ρ w) {x : Operand} (hx : ze7 G x = true) : VR ρ (evA tm x) (a.eval x) := by
 cases x with
 | tmp t => exact h.tm.2 t
 | const v => exact zpc hx
 | global g =>
  have hg : g < G.g := by
   have : lt g G.g = true := hx
   simpa using this
  obtain ⟨h1, h2, h3⟩ := c.glob g hg
  have := VR.ptr (ρ := ρ) g 0 h1
  rw [h2, h3] at this
  exact this
 | func f => exact .func _ _ _ _ _ rfl .nil .nil
theorem zry {ρ : Rho} {tm : T Value} {sz : Nat} {a : Act} {dst : Option Tmp} {v v' : Value} {f : Dst} (hd : zeo dst = .mk f) (ht : tmR ρ tm sz a.tmps) (hv : VR ρ v v') :
 ∃ tm1, (∀ k, f tm sz v k = k tm1) ∧ tmR ρ tm1 sz (a.put dst v').tmps := by
 cases dst with
 | none => cases hd; exact ⟨tm, fun _ => rfl, ht⟩
 | some d =>
  obtain ⟨s, e, hs⟩ := T.setPath_spec (α := Value) (β := R) (d + 1) d (Nat.lt_succ_self d)
  have : zeo (some d) = T.SBx.rec (motive := fun _ => DBx) (fun s => .mk fun tm sz v k => pick (lt d sz) (s tm v k) (k tm)) (T.setPath (β := R) (T.pathF (d + 1) d)) := rfl
  rw [this, e] at hd
  cases hd
  obtain ⟨h1, h2⟩ := ht
  obtain ⟨t', g1, g2⟩ := hs tm v
  cases hl : lt d sz with
  | false =>
   refine ⟨tm, fun k => by show pick (lt d sz) (s tm v k) (k tm) = _; rw [hl]; rfl, ?_⟩
   have hge : ¬ d < a.tmps.size := by
    rw [h1]
    intro hlt
    have : lt d sz = true := by simpa using hlt
    rw [hl] at this; cases this
   have : (a.put (some d) v').tmps = a.tmps := by
    simp only [Act.put]
    rw [Array.setIfInBounds, dif_neg hge]
   rw [this]
   exact ⟨h1, h2⟩
  | true =>
   have hlt : d < a.tmps.size := by rw [h1]; simpa using hl
   refine ⟨t', fun k => by show pick (lt d sz) (s tm v k) (k tm) = _; rw [hl]; exact g1 k, ?_, fun t => ?_⟩
   · simp [Act.put, h1]
   · show VR ρ (zaf (t'.get t) undef fun v => v) _
     rw [g2]
     simp only [Act.put]
     by_cases e : t = d
     · subst e
       rw [if_pos rfl]
       have : (a.tmps.setIfInBounds t v').getD t undef = v' := by simp [Array.getD, hlt]
       rw [this]
       exact hv
     · rw [if_neg e]
       have : (a.tmps.setIfInBounds d v').getD t undef = a.tmps.getD t undef := by
        simp only [Array.getD_eq_getD_getElem?, Array.getElem?_setIfInBounds]
        rw [if_neg (fun h => e h.symm)]
       rw [this]
       exact h2 t
/-! Steps. -/
section
variable {b : Frame} {a : Act} {k : List Item} {cs : List Frame} {w : World} {ops : Array Oper} {i : Nat} {rest : List Nat} {o : Oper}
structure Doer (P : Program) (fr : Frame) (cs : List Frame) (w : World) (fr1 : Frame) (w1 : World) (s : Sem Next) : Prop where
 val : ∀ nx v w', s.run P w1 = .ok nx w' → (nx = .value v ∨ (nx = .skip ∧ v = undef)) → Go.step P (lone fr cs w) = .next (lone (fr1.finish v) cs w')
 enter : ∀ f args w', s.run P w1 = .ok (.enter f args) w' → Go.step P (lone fr cs w) = .next (lone (Frame.enter P f args .normal) (fr1 :: cs) w')
 round : ∀ l f tmps assign body w', s.run P w1 = .ok (.round l f tmps assign body) w' → Go.step P (lone fr cs w) = .next (lone (Frame.round l f tmps assign body .normal) (fr1 :: cs) w')
theorem zj1 (ho : ops[i]? = some o) (hw : Region.wanted o (yielded ops a.tmps) = true) (hd : ∀ c, o.op ≠ .defer c) :
 Doer P (b.atR a (.inRegion ops (i :: rest) :: k)) cs w (b.atR a (.inRegion ops (i :: rest) :: k)) w (execOp a.eval o) := by
 have e := stepGR_op (P := P) (b := b) (a := a) (k := k) (cs := cs) (w := w) (rest := rest) ho hw
 rw [Oper.semAt_eq _ _ _ hd] at e
 refine ⟨fun nx v w' hr hv => ?_, fun f args w' hr => ?_, fun l f tmps as bd w' hr => ?_⟩
 · apply step_lone_go
   rw [e]
   rcases hv with rfl | ⟨rfl, rfl⟩ <;> simp [stepG.apply, Sem.runT_eq, hr, GStep.bare_after]
 · apply step_lone_go
   rw [e]
   simp [stepG.apply, Sem.runT_eq, hr, GStep.bare_after, Frame.atR]
 · apply step_lone_go
   rw [e]
   simp [stepG.apply, Sem.runT_eq, hr, GStep.bare_after, Frame.atR]
end
def Ends (P : Program) (S : St) (fr : Frame) (cs : List Frame) (w : World) (v' : Value) (w' : World) : Prop :=
 match S.ro, S.kd with
 | none, false => ∃ fr1, Steps P (lone fr cs w) (lone fr1 cs w') ∧ fr1.fn = S.fn ∧ fr1.leaving P w' (.returned v')
 | none, true => ∃ c rest, cs = c :: rest ∧ Steps P (lone fr cs w) (lone { c with mode := settle c.mode } rest w')
 | some _, _ => ∃ c rest, cs = c :: rest ∧ Steps P (lone fr cs w) (lone (c.finish v') rest w')
def EndsP (P : Program) (S : St) (fr : Frame) (cs : List Frame) (w : World) (u' : Value) (w' : World) : Prop :=
 S.ro = none ∧ S.kd = false ∧ ∃ fr1, Steps P (lone fr cs w) (lone fr1 cs w') ∧ fr1.fn = S.fn ∧ fr1.leaving P w' (.panicked [{ v := u', recovered := false }])
theorem Ends.head {S : St} {fr fr1 : Frame} {cs : List Frame} {w w1 w' : World} {v' : Value} (h : Steps P (lone fr cs w) (lone fr1 cs w1)) (g : Ends P S fr1 cs w1 v' w') : Ends P S fr cs w v' w' := by
 unfold Ends at *
 cases hs : S.ro with
 | none =>
  cases hk : S.kd with
  | false => rw [hs, hk] at g; obtain ⟨f, a, b⟩ := g; exact ⟨f, h.trans a, b⟩
  | true => rw [hs, hk] at g; obtain ⟨c, r, a, b⟩ := g; exact ⟨c, r, a, h.trans b⟩
 | some l => rw [hs] at g; obtain ⟨c, r, a, b⟩ := g; exact ⟨c, r, a, h.trans b⟩
theorem EndsP.head {S : St} {fr fr1 : Frame} {cs : List Frame} {w w1 w' : World} {v' : Value} (h : Steps P (lone fr cs w) (lone fr1 cs w1)) (g : EndsP P S fr1 cs w1 v' w') : EndsP P S fr cs w v' w' := by
 obtain ⟨h1, h2, f, a, b⟩ := g
 exact ⟨h1, h2, f, h.trans a, b⟩
theorem zud {ρ : Rho} {u v' : Value} : ¬ VR ρ (panV u) v' := by
 intro h
 cases h with
 | tuple _ _ hl => cases hl with
  | cons _ _ _ _ hv _ => cases hv
theorem zh5 {β : Type} {v : Value} {d : β} {k : Value → β} {x : β} (h : zs1 v d k = x) : (∃ u, v = panV u ∧ k u = x) ∨ ((∀ u, v ≠ panV u) ∧ d = x) := by
 by_cases hv : ∃ u, v = panV u
 · obtain ⟨u, rfl⟩ := hv
   exact .inl ⟨u, rfl, h⟩
 · refine .inr ⟨fun u e => hv ⟨u, e⟩, ?_⟩
   rw [← h]
   cases v <;> try rfl
   rename_i l
   obtain ⟨l⟩ := l
   show d = panL l d k
   unfold panL
   split
   · exact absurd ⟨_, rfl⟩ hv
   · rfl
theorem zh8 {r : R} {v : Value} {hp : Hp} (h : zf9 r = .ok v hp) : r = .ok v hp ∧ ∀ u, v ≠ panV u := by
 unfold zf9 at h
 obtain ⟨v1, q, h1, h2⟩ := zi6 h
 rcases zh5 h2 with ⟨u, _, h3⟩ | ⟨h3, h4⟩
 · cases h3
 · cases h4; exact ⟨h1, h3⟩
theorem zy2 {v : Value} {hp : Hp} (h : ∀ u, v ≠ panV u) : zf9 (.ok v hp) = .ok v hp := by
 show zs1 v (R.ok v hp) (fun _ => .no) = .ok v hp
 rcases zh5 (β := R) (v := v) (d := .ok v hp) (k := fun _ => .no) rfl with ⟨u, e, _⟩ | ⟨_, e⟩
 · exact absurd e (h u)
 · exact e.symm
def Concl (P : Program) (G : Env) (S : St) (hp hp' : Hp) (ρ : Rho) (w : World) (v : Value) (fr : Frame) (cs : List Frame) : Prop :=
 (∃ v' ρ' w', VR ρ' v v' ∧ Post P G hp hp' ρ ρ' w w' ∧ Ends P S fr cs w v' w') ∨
 ∃ u u' ρ' w', v = panV u ∧ VR ρ' u u' ∧ Post P G hp hp' ρ ρ' w w' ∧ EndsP P S fr cs w u' w'
theorem Concl.val {S : St} {hp hp' : Hp} {ρ : Rho} {w : World} {v : Value} {fr : Frame} {cs : List Frame} (h : Concl P G S hp hp' ρ w v fr cs) (hv : ∀ u, v ≠ panV u) :
 ∃ v' ρ' w', VR ρ' v v' ∧ Post P G hp hp' ρ ρ' w w' ∧ Ends P S fr cs w v' w' := by
 rcases h with h | ⟨u, _, _, _, e, _⟩
 · exact h
 · exact absurd e (hv u)
def zea (P : Program) (G : Env) (run : Run) : Prop :=
 ∀ S dfs todo tm hp v hp', run S dfs todo tm hp = .ok v hp' → ∀ ρ w b a todo' cs, CtxA P G hp ρ w → FS P ρ S dfs tm b a → TR ρ todo todo' → (zeu S → cs ≠ []) →
  Concl P G S hp hp' ρ w v (b.atR a todo') cs
end Go.Proofs.YtelanmknimapoaaGreatDoor.Sx
/- An executor of closed runs: calls made. -/
namespace Go.Proofs.YtelanmknimapoaaGreatDoor.Sx
open Go
variable {P : Program} {G : Env}
theorem zif {ρ : Rho} {args args' : List Value} (hl : LR ρ args args') (nt : Nat) :
 tmR ρ (T.setList args .leaf 0) (pick (Nat.ble args.length nt) nt args.length) ((⟨args'⟩ : Array Value) ++ Array.replicate (nt - (⟨args'⟩ : Array Value).size) undef) := by
 have hlen := hl.length
 refine ⟨?_, fun t => ?_⟩
 · simp only [Array.size_append, Array.size_replicate]
   show args'.length + (nt - args'.length) = _
   cases hb : Nat.ble args.length nt with
   | true => have := Nat.le_of_ble_eq_true hb; simp only [za9]; omega
   | false =>
    have : ¬ args.length ≤ nt := fun h => by rw [Nat.ble_eq_true_of_le h] at hb; cases hb
    simp only [zbo]; omega
 · show VR ρ (zaf ((T.setList args .leaf 0).get t) undef fun v => v) _
   rw [T.get_setList]
   by_cases h : t < args.length
   · rw [if_pos ⟨Nat.zero_le _, by omega⟩]
     obtain ⟨h1, h2⟩ | ⟨v, v', h1, h2, h3⟩ := hl.get t
     · rw [List.getElem?_eq_none_iff] at h1; omega
     · rw [Nat.sub_zero, h1]
       have hs : t < (⟨args'⟩ : Array Value).size := by show t < args'.length; omega
       have : ((⟨args'⟩ : Array Value) ++ Array.replicate (nt - (⟨args'⟩ : Array Value).size) undef).getD t undef = v' := by
        rw [Array.getD_eq_getD_getElem?, Array.getElem?_append_left hs]
        have : (⟨args'⟩ : Array Value)[t]? = args'[t]? := by simp
        rw [this, h2]; rfl
       rw [this]
       exact h3
   · rw [if_neg (by omega)]
     have hs : (⟨args'⟩ : Array Value).size ≤ t := by show args'.length ≤ t; omega
     have : ((⟨args'⟩ : Array Value) ++ Array.replicate (nt - (⟨args'⟩ : Array Value).size) undef).getD t undef = undef := by
      rw [Array.getD_eq_getD_getElem?, Array.getElem?_append_right hs, Array.getElem?_replicate]
      split <;> rfl
     rw [this]
     exact VR.undef
theorem zsu {ρ : Rho} {sz : Nat} {k : T Value → R} {v : Value} {hp' : Hp} : ∀ (ps : List Tmp) (args : List Value) (tm : T Value), zgz sz ps args tm k = .ok v hp' →
 ps.length = args.length ∧ ∃ tm1, k tm1 = .ok v hp' ∧ ∀ (args' : List Value) (tmps : Array Value), LR ρ args args' → tmR ρ tm sz tmps →
  tmR ρ tm1 sz ((ps.zip args').foldl (fun (tmps : Array Value) (x : Tmp × Value) => tmps.setIfInBounds x.1 x.2) tmps) := by
 intro ps
 induction ps with
 | nil =>
  intro args tm h
  cases args with
  | nil => exact ⟨rfl, tm, h, fun args' tmps hl ht => by cases hl; exact ht⟩
  | cons x l => cases h
 | cons t ts ih =>
  intro args tm h
  cases args with
  | nil => cases h
  | cons x l =>
   have h' : pick (lt t sz) (T.put tm t (some x) fun tm => zgz sz ts l tm k) (zgz sz ts l tm k) = .ok v hp' := h
   rw [T.put_eq] at h'
   cases hl : lt t sz with
   | true =>
    rw [hl, za9] at h'
    obtain ⟨g1, tm1, g2, g3⟩ := ih _ _ h'
    refine ⟨by simp [g1], tm1, g2, fun args' tmps hla ht => ?_⟩
    cases hla with
    | cons _ x' _ l' hx hl' =>
     refine g3 l' _ hl' ⟨by simp [ht.1], fun u => ?_⟩
     have hlt : t < tmps.size := by rw [ht.1]; simpa using hl
     show VR ρ (zaf ((tm.set t (some x)).get u) undef fun v => v) _
     rw [T.get_set]
     by_cases e : u = t
     · subst e
       rw [if_pos rfl]
       have : (tmps.setIfInBounds u x').getD u undef = x' := by simp [Array.getD, hlt]
       show VR ρ x ((tmps.setIfInBounds u x').getD u undef)
       rw [this]; exact hx
     · rw [if_neg e]
       have : (tmps.setIfInBounds t x').getD u undef = tmps.getD u undef := by
        simp only [Array.getD_eq_getD_getElem?, Array.getElem?_setIfInBounds]
        rw [if_neg (fun h => e h.symm)]
       show VR ρ _ ((tmps.setIfInBounds t x').getD u undef)
       rw [this]; exact ht.2 u
   | false =>
    rw [hl, zbo] at h'
    obtain ⟨g1, tm1, g2, g3⟩ := ih _ _ h'
    refine ⟨by simp [g1], tm1, g2, fun args' tmps hla ht => ?_⟩
    cases hla with
    | cons _ x' _ l' hx hl' =>
     have hge : ¬ t < tmps.size := by
      rw [ht.1]; intro hlt
      have : lt t sz = true := by simpa using hlt
      rw [hl] at this; cases this
     have : tmps.setIfInBounds t x' = tmps := by rw [Array.setIfInBounds, dif_neg hge]
     show tmR ρ tm1 sz ((ts.zip l').foldl _ (tmps.setIfInBounds t x'))
     rw [this]
     exact g3 l' _ hl' ht
theorem Concl.rd {S : St} {hp hp' : Hp} {ρ : Rho} {w : World} {v : Value} {fr : Frame} {cs : List Frame} {l : Nat} (hro : S.ro = some l) (h : Concl P G S hp hp' ρ w v fr cs) :
 ∃ v' ρ' w', VR ρ' v v' ∧ Post P G hp hp' ρ ρ' w w' ∧ Ends P S fr cs w v' w' := by
 rcases h with h | ⟨_, _, _, _, _, _, _, h, _⟩
 · exact h
 · rw [hro] at h; cases h
theorem zje {hp hp' : Hp} {ρ : Rho} {w1 : World} {f : FuncId} {args args' : List Value} {v : Value} (c : CtxA P G hp ρ w1) (g2 : LR ρ args args')
 (g3 : (∃ kf, G.known f = some kf ∧ kf args hp = .ok v hp') ∨ (hp' = hp ∧ Calls P f ⟨args'⟩ w1 fun e w' => (∃ v', (e = .returned v' ∧ VR ρ v v') ∨ ∃ u, v = panV u ∧ e = .panicked [{ v := v', recovered := false }] ∧ VR ρ u v') ∧ RowKit.Below w1.heap.size w1 w')) :
 Calls P f ⟨args'⟩ w1 fun e w' => yaw P G hp hp' ρ w1 v e w' := by
 rcases g3 with ⟨kf, h1, h2⟩ | ⟨rfl, h1⟩
 · exact c.known f kf h1 args hp v hp' h2 ρ w1 args' rfl (fun _ _ => ⟨rfl, rfl⟩) c.sat c.fresh g2
 · exact h1.mono fun e w' ⟨⟨v', e1⟩, e3⟩ => ⟨v', ρ, Post.below c.sat e3, e1⟩
theorem zhc {run : Run} (hrun : zea P G run) {hp : Hp} {ρ : Rho} {w w1 : World} {fr fr1 : Frame} {cs : List Frame} {cr : CR} {s : Sem Next} {v : Value} {hp' : Hp}
 (c : CtxA P G hp ρ w1) (hcr : CRel P G hp ρ w1 cr s) (D : Doer P fr cs w fr1 w1 s) (h : come P run hp cr = .ok v hp') :
 ∃ v' ρ' w', VR ρ' v v' ∧ Post P G hp hp' ρ ρ' w1 w' ∧ Steps P (lone fr cs w) (lone (fr1.finish v') cs w') := by
 cases cr with
 | no => cases h
 | val u q =>
  obtain ⟨e, nx, v', ρ', w', g1, g2, g3, g4⟩ := hcr
  subst e
  cases h
  exact ⟨v', ρ', w', g3, g4, .one (D.val nx v' w' g1 g2)⟩
 | enter f args =>
  obtain ⟨args', g1, g2⟩ := hcr
  have h' : Body.rec (motive := fun _ => R) .no (fun b nt rs => zf9 (zc6 run f args hp b nt rs)) (zbp P f) = .ok v hp' := h
  cases hb : zbp P f with
  | none => rw [hb] at h'; cases h'
  | some body nt rs =>
   rw [hb] at h'
   unfold zbp at hb
   split at hb
   · rename_i fn hf
     split at hb
     · rename_i cc hbd
       rw [zar] at hb
       cases hb
       obtain ⟨h2, hnp⟩ := zh8 (show zf9 (zc6 run f args hp body fn.ntmps fn.results.toList) = .ok v hp' from h')
       unfold zc6 at h2
       rw [zar, T.putList_eq] at h2
       let b0 : Frame := { fn := f, tmps := #[], todo := [], defers := [], mode := .run, kind := .normal }
       let a0 : Act := ⟨(⟨args'⟩ : Array Value) ++ Array.replicate (fn.ntmps - (⟨args'⟩ : Array Value).size) undef, []⟩
       have hfs : FS P ρ ⟨f, pick (Nat.ble args.length fn.ntmps) fn.ntmps args.length, fn.results.toList, none, false⟩ [] (T.setList args .leaf 0) b0 a0 :=
        ⟨rfl, rfl, rfl, fun l hl => (by cases hl), zif g2 fn.ntmps, .nil, fun _ => ⟨fn, hf, rfl⟩⟩
       obtain ⟨v', ρ', w', k1, k2, k3⟩ := (hrun _ _ _ _ _ _ _ h2 ρ w1 b0 a0 [.code body] (fr1 :: cs) c hfs (.cons _ _ _ _ (.code body) .nil) (fun _ e => by cases e)).val hnp
       refine ⟨v', ρ', w', k1, k2, .head (D.enter f ⟨args'⟩ w1 g1) ?_⟩
       have he : Frame.enter P f ⟨args'⟩ .normal = b0.atR a0 [.code body] := by
        unfold Frame.enter
        simp only [hf, Option.map_some, Option.getD_some, Option.bind_some, hbd]
        rfl
       rw [he]
       obtain ⟨fr2, j1, _, j2⟩ := k3
       exact j1.trans (.one (step_leave_returned j2))
     · cases hb
   · cases hb
 | yield l args =>
  obtain ⟨hok, args', hl, hy⟩ := hcr
  have h' : zqf run hp l args = .ok v hp' := h
  unfold zqf at h'
  split at h'
  · rename_i st pend fn tm sz ps as bd d hv
    obtain ⟨_, hlt, hsat⟩ := c.sat.vis _ _ hv
    obtain ⟨_, tmps, params, hheap, hps, htm⟩ := hsat
    obtain ⟨g1, tm1, g2, g3⟩ := zsu (ρ := ρ) _ _ _ h'
    have hsz : (⟨args'⟩ : Array Value).size = params.size := by
     show args'.length = params.size
     rw [← hl.length, ← g1, ← hps, Array.length_toList]
    have hrunY := run_yield (P := P) (args := ⟨args'⟩) hheap hsz
    rw [← hy] at hrunY
    have htm' := g3 args' tmps hl htm
    have hfold : ((params.zip ⟨args'⟩).foldl (fun (tmps : Array Value) (x : Tmp × Value) => tmps.setIfInBounds x.1 x.2) tmps) = ((ps.zip args').foldl (fun (tmps : Array Value) (x : Tmp × Value) => tmps.setIfInBounds x.1 x.2) tmps) := by
     rw [← Array.foldl_toList, Array.toList_zip, hps]
    rw [← hfold] at htm'
    let b0 : Frame := { fn := fn, tmps := #[], todo := [], defers := [], mode := .run, kind := .normal, roundOf := some (ρ.blk l) }
    let a0 : Act := ⟨(params.zip ⟨args'⟩).foldl (fun (tmps : Array Value) (x : Tmp × Value) => tmps.setIfInBounds x.1 x.2) tmps, []⟩
    have hfs : FS P ρ ⟨fn, sz, [], some l, false⟩ [] tm1 b0 a0 :=
     ⟨rfl, rfl, rfl, fun l' hl' => (by cases hl'; exact ⟨hok, rfl⟩), htm', .nil, fun e => (by cases e)⟩
    obtain ⟨v', ρ', w', k1, k2, k3⟩ := Concl.rd rfl <| hrun _ _ _ _ _ _ _ g2 ρ w1 b0 a0 [.code as, .beginRound, .code bd] (fr1 :: cs) c hfs
     (.cons _ _ _ _ (.code as) (.cons _ _ _ _ .beginRound (.cons _ _ _ _ (.code bd) .nil))) (fun _ e => by cases e)
    obtain ⟨c', rest, e, j⟩ := k3
    cases e
    exact ⟨v', ρ', w', k1, k2, .head (D.round _ _ _ _ _ _ hrunY) j⟩
  · cases h'
 | known f args u q =>
  obtain ⟨h, hnp⟩ := zh8 (show zf9 (.ok u q) = .ok v hp' from h)
  cases h
  obtain ⟨args', g1, g2, g3⟩ := hcr
  obtain ⟨e, w', fr2, ⟨v', ρ', k2, k1⟩, k3, k4, k5⟩ := zje c g2 g3 (fr1 :: cs)
  rcases k1 with ⟨rfl, k1⟩ | ⟨u, e1, _, _⟩
  · exact ⟨v', ρ', w', k1, k2, .head (D.enter f ⟨args'⟩ w1 g1) (k3.trans (.one (step_leave_returned k5)))⟩
  · exact absurd e1 (hnp u)
theorem yab {run : Run} (hrun : zea P G run) {hp : Hp} {ρ : Rho} {w w1 : World} {fr fr1 : Frame} {cs : List Frame} {cr : CR} {s : Sem Next} {v : Value} {hp' : Hp}
 (c : CtxA P G hp ρ w1) (hcr : CRel P G hp ρ w1 cr s) (D : Doer P fr cs w fr1 w1 s) (h : yac P run hp cr = .ok v hp') :
 (∃ v' ρ' w', VR ρ' v v' ∧ Post P G hp hp' ρ ρ' w1 w' ∧ Steps P (lone fr cs w) (lone (fr1.finish v') cs w')) ∨
 ∃ u u' ρ' w', v = panV u ∧ VR ρ' u u' ∧ Post P G hp hp' ρ ρ' w1 w' ∧ Steps P (lone fr cs w) (lone (fr1.raise [{ v := u', recovered := false }]) cs w') := by
 cases cr with
 | no => cases h
 | val u q => exact .inl (zhc hrun c hcr D h)
 | yield l args => exact .inl (zhc hrun c hcr D h)
 | known f args u q =>
  have h' : R.ok u q = .ok v hp' := h
  cases h'
  obtain ⟨args', g1, g2, g3⟩ := hcr
  obtain ⟨e, w', fr2, ⟨v', ρ', k2, k1⟩, k3, k4, k5⟩ := zje c g2 g3 (fr1 :: cs)
  rcases k1 with ⟨rfl, k1⟩ | ⟨u, e1, rfl, k1⟩
  · exact .inl ⟨v', ρ', w', k1, k2, .head (D.enter f ⟨args'⟩ w1 g1) (k3.trans (.one (step_leave_returned k5)))⟩
  · exact .inr ⟨u, v', ρ', w', e1, k1, k2, .head (D.enter f ⟨args'⟩ w1 g1) (k3.trans (.one (step_leave_panicked k5)))⟩
 | enter f args =>
  by_cases hv : ∃ u, v = panV u
  · obtain ⟨u, rfl⟩ := hv
    obtain ⟨args', g1, g2⟩ := hcr
    have h' : Body.rec (motive := fun _ => R) .no (zc6 run f args hp) (zbp P f) = .ok (panV u) hp' := h
    cases hb : zbp P f with
    | none => rw [hb] at h'; cases h'
    | some body nt rs =>
     rw [hb] at h'
     unfold zbp at hb
     split at hb
     · rename_i fn hf
       split at hb
       · rename_i cc hbd
         rw [zar] at hb
         cases hb
         have h2 : zc6 run f args hp body fn.ntmps fn.results.toList = .ok (panV u) hp' := h'
         unfold zc6 at h2
         rw [zar, T.putList_eq] at h2
         let b0 : Frame := { fn := f, tmps := #[], todo := [], defers := [], mode := .run, kind := .normal }
         let a0 : Act := ⟨(⟨args'⟩ : Array Value) ++ Array.replicate (fn.ntmps - (⟨args'⟩ : Array Value).size) undef, []⟩
         have hfs : FS P ρ ⟨f, pick (Nat.ble args.length fn.ntmps) fn.ntmps args.length, fn.results.toList, none, false⟩ [] (T.setList args .leaf 0) b0 a0 :=
          ⟨rfl, rfl, rfl, fun l hl => (by cases hl), zif g2 fn.ntmps, .nil, fun _ => ⟨fn, hf, rfl⟩⟩
         have he : Frame.enter P f ⟨args'⟩ .normal = b0.atR a0 [.code body] := by
          unfold Frame.enter
          simp only [hf, Option.map_some, Option.getD_some, Option.bind_some, hbd]
          rfl
         rcases hrun _ _ _ _ _ _ _ h2 ρ w1 b0 a0 [.code body] (fr1 :: cs) c hfs (.cons _ _ _ _ (.code body) .nil) (fun _ e => by cases e) with ⟨v', ρ', w', k1, _, _⟩ | ⟨u1, u', ρ', w', e, k1, k2, _, _, fr2, j1, _, j2⟩
         · exact absurd k1 zud
         · cases e
           refine .inr ⟨_, u', ρ', w', rfl, k1, k2, .head (D.enter f ⟨args'⟩ w1 g1) ?_⟩
           rw [he]
           exact j1.trans (.one (step_leave_panicked j2))
       · cases hb
     · cases hb
  · refine .inl (zhc hrun c hcr D ?_)
    have h' : Body.rec (motive := fun _ => R) .no (zc6 run f args hp) (zbp P f) = .ok v hp' := h
    show Body.rec (motive := fun _ => R) .no (fun b nt rs => zf9 (zc6 run f args hp b nt rs)) (zbp P f) = .ok v hp'
    cases hb : zbp P f with
    | none => rw [hb] at h'; cases h'
    | some body nt rs =>
     rw [hb] at h'
     replace h' : zc6 run f args hp body nt rs = .ok v hp' := h'
     show zf9 (zc6 run f args hp body nt rs) = .ok v hp'
     rw [h']
     exact zy2 fun u e => hv ⟨u, e⟩
end Go.Proofs.YtelanmknimapoaaGreatDoor.Sx
/- An executor of closed runs: how activations end. -/
namespace Go.Proofs.YtelanmknimapoaaGreatDoor.Sx
open Go
variable {P : Program} {G : Env}
theorem zi4 (w : World) (b : Nat) (o : Obj) : Only b w (w.putObj b o) :=
 ⟨by simp [World.putObj], fun j hj => World.putObj_heap_other hj, rfl, rfl, rfl⟩
theorem zh9 {hp : Hp} {ρ : Rho} {w : World} {l : Nat} {st st' : LoopState} {pend pend' : Option Code} {fn : FuncId} {tm : T Value} {sz : Nat} {ps : List Tmp} {a b : Code} {d : Nat}
 (hs : Sat P G hp ρ w) (hv : hp.vis l = some (.loop st pend fn tm sz ps a b d)) :
 ρ.ok l ∧ ∃ r : Loop, w.heap[ρ.blk l]? = some (.loop r) ∧ r.state = st ∧ r.pending = pend ∧
  Post P G hp (hp.upd l (some (.loop st' pend' fn tm sz ps a b d))) ρ ρ w (w.putObj (ρ.blk l) (.loop { r with state := st', pending := pend' })) := by
 obtain ⟨hok, hlt, hd, tmps, params, hh, hps, htm⟩ := hs.vis _ _ hv
 refine ⟨hok, _, hh, rfl, rfl, Post.upd hs hv (zi4 _ _ _) ⟨hd, tmps, params, ?_, hps, htm⟩⟩
 exact World.putObj_heap_same hlt
theorem zm5 {hp hp' : Hp} {ρ : Rho} {w : World} {l : Nat} {jump : Option Code} {v : Value} (hs : Sat P G hp ρ w) (h : zfr hp l jump = .ok v hp') :
 ∃ v' w', (Instr.endRound (ρ.blk l) jump).run P w = .ok v' w' ∧ VR ρ v v' ∧ Post P G hp hp' ρ ρ w w' := by
 unfold zfr at h
 split at h
 · rename_i st pend fn tm sz ps a b d hv
   cases jump with
   | none =>
    have h' : hp.set l (some (.loop .ready none fn tm sz ps a b d)) (fun hp => R.ok (.bool true) hp) = .ok v hp' := h
    rw [Hp.set_eq] at h'
    cases h'
    obtain ⟨hok, r, hh, e1, e2, hpost⟩ := zh9 (st' := .ready) (pend' := none) hs hv
    exact ⟨_, _, run_endRound none hh, .bool true, hpost⟩
   | some c =>
    have h' : hp.set l (some (.loop .done (some c) fn tm sz ps a b d)) (fun hp => R.ok (.bool false) hp) = .ok v hp' := h
    rw [Hp.set_eq] at h'
    cases h'
    obtain ⟨hok, r, hh, e1, e2, hpost⟩ := zh9 (st' := .done) (pend' := some c) hs hv
    exact ⟨_, _, run_endRound (some c) hh, .bool false, hpost⟩
 · cases h
def zdu (tmps : Array Value) : ResultVar → Sem Value
 | .tmp t => pure (tmps.getD t undef)
 | .cell a t => do loadVar t (← asAddr (tmps.getD a undef))
theorem zii {hp hp' : Hp} {ρ : Rho} {w : World} {tm : T Value} {sz : Nat} {tmps : Array Value} {v : Value} (c : Sat P G hp ρ w) (ht : tmR ρ tm sz tmps) : ∀ (rs : List ResultVar) (k : List Value → R), zcc P hp tm rs k = .ok v hp' →
 ∃ vs vs', k vs = .ok v hp' ∧ LR ρ vs vs' ∧ (rs.mapM (zdu tmps)).run P w = .ok vs' w := by
 intro rs
 induction rs with
 | nil => intro k h; exact ⟨[], [], h, .nil, rfl⟩
 | cons r rs ih =>
  intro k h
  cases r with
  | tmp t =>
   have h' : zmo (evA tm (.tmp t)) (fun v => zcc P hp tm rs fun vs => k (v :: vs)) = .ok v hp' := h
   rw [zgf] at h'
   obtain ⟨vs, vs', g1, g2, g3⟩ := ih _ h'
   refine ⟨_, tmps.getD t undef :: vs', g1, .cons _ _ _ _ (ht.2 t) g2, ?_⟩
   rw [List.mapM_cons, Sem.run_bind]
   show Result.andThen (.ok (tmps.getD t undef) w) _ = _
   rw [Result.andThen_ok, Sem.run_bind, g3]
   rfl
  | cell a t =>
   have h' : onR (zlp P t (evA tm (.tmp a)) hp) .no (fun v _ => zcc P hp tm rs fun vs => k (v :: vs)) = .ok v hp' := h
   obtain ⟨u, q, g0, h'⟩ := zi6 h'
   obtain ⟨rfl, u', k1, k2⟩ := zqg c g0 (ht.2 a)
   obtain ⟨vs, vs', g1, g2, g3⟩ := ih _ h'
   refine ⟨_, u' :: vs', g1, .cons _ _ _ _ k2 g2, ?_⟩
   rw [List.mapM_cons, Sem.run_bind]
   have : (zdu tmps (.cell a t)).run P w = .ok u' w := k1
   rw [this, Result.andThen_ok, Sem.run_bind, g3]
   rfl
theorem zna {ρ : Rho} {vs vs' : List Value} (h : LR ρ vs vs') : VR ρ (zef vs) (zef vs') := by
 cases h with
 | nil => exact .tuple [] [] .nil
 | cons x x' l l' hx hl =>
  cases hl with
  | nil => exact hx
  | cons y y' m m' hy hm => exact .tuple _ _ (.cons _ _ _ _ hx (.cons _ _ _ _ hy hm))
theorem ziy {fn : Func} {tmps : Array Value} {w : World} {vs' : List Value} (h : (fn.results.toList.mapM (zdu tmps)).run P w = .ok vs' w) : (results fn tmps).run P w = .ok (zef vs') w := by
 have e : results fn tmps = (fn.results.mapM (zdu tmps) >>= fun vs => pure (if h : vs.size = 1 then vs[0] else .tuple vs)) := by
  unfold results
  have e2 : (fun r => match r with | ResultVar.tmp t => (pure (tmps.getD t undef) : Sem Value) | ResultVar.cell a t => do loadVar t (← asAddr (tmps.getD a undef))) = zdu tmps := by
   funext r
   cases r <;> rfl
  rw [← e2]
  rfl
 rw [e, Sem.run_bind, Array.mapM_eq_mapM_toList]
 rw [show (List.toArray <$> fn.results.toList.mapM (zdu tmps)) = (fn.results.toList.mapM (zdu tmps) >>= fun l => pure l.toArray) from map_eq_pure_bind _ _]
 rw [Sem.run_bind, h, Result.andThen_ok]
 show Result.ok _ _ = _
 cases vs' with
 | nil => rfl
 | cons x l => cases l <;> rfl
inductive PanR (ρ : Rho) : Pan → FrameMode → Prop
 | none : PanR ρ none .returning
 | some (v v' : Value) : VR ρ v v' → PanR ρ (some v) (.panicking [{ v := v', recovered := false }])
theorem PanR.notRun {ρ : Rho} {u : Pan} {M : FrameMode} (h : PanR ρ u M) : M ≠ .run := by cases h <;> intro e <;> cases e
theorem PanR.mono {ρ ρ' : Rho} (le : ρ.Le ρ') {u : Pan} {M : FrameMode} (h : PanR ρ u M) : PanR ρ' u M := by
 cases h with
 | none => exact .none
 | some v v' h => exact .some v v' (h.mono le)
theorem znz {o : Oper} (h : isRecover o = true) : o.guard = none ∧ ∃ c, o.op = .call c ∧ c.callee = .builtin .recover := by
 unfold isRecover at h
 split at h
 · rename_i c hc hg
   split at h
   · rename_i hb
     exact ⟨hg, c, hc, hb⟩
   · cases h
 · cases h
theorem zv8 {ρ : Rho} {b : Frame} {a : Act} {cs : List Frame} {w : World} : ∀ (x : Code) (k : List AItem) (k' : List Item) (all : Array Oper) (l : List Oper) (dst : Option Tmp) (k1 : List AItem), TR ρ k k' → zle x k = .some all l dst k1 →
 ∃ o i is k1', Steps P (lone (b.atR a (.code x :: k')) cs w) (lone (b.atR a (.inRegion all (i :: is) :: k1')) cs w) ∧ all[i]? = some o ∧ isRecover o = true ∧ o.dst = dst ∧ TR ρ (.ops all l :: k1) (.inRegion all is :: k1') := by
 intro x
 induction x with
 | seq x y ih _ =>
  intro k k' all l dst k1 hk h
  obtain ⟨o, i, is, k1', h1, h2⟩ := ih (.code y :: k) (.code y :: k') all l dst k1 (.cons _ _ _ _ (.code y) hk) h
  exact ⟨o, i, is, k1', .head stepR_seq h1, h2⟩
 | block id x ih =>
  intro k k' all l dst k1 hk h
  obtain ⟨o, i, is, k1', h1, h2⟩ := ih (.inBlock id :: k) (.inBlock id :: k') all l dst k1 (.cons _ _ _ _ (.inBlock id) hk) h
  exact ⟨o, i, is, k1', .head stepR_block h1, h2⟩
 | scope x ih =>
  intro k k' all l dst k1 hk h
  obtain ⟨o, i, is, k1', h1, h2⟩ := ih (.inScope x :: k) (.inScope x :: k') all l dst k1 (.cons _ _ _ _ (.inScope x) hk) h
  exact ⟨o, i, is, k1', .head (step_lone_go (by simp [stepG, stepG.exec, Frame.atR])) h1, h2⟩
 | region id ops draw =>
  intro k k' all l dst k1 hk h
  cases draw with
  | true => cases h
  | false =>
   have h' : zpr ops k = .some all l dst k1 := h
   unfold zpr at h'
   split at h'
   · rename_i o l1 hl
     cases hr : isRecover o with
     | false => rw [hr] at h'; cases h'
     | true =>
      rw [hr] at h'
      cases h'
      have hop : ops.toList.map some = (List.range ops.size).map (fun i => ops[i]?) := by
       apply List.ext_getElem?
       intro i
       simp only [List.getElem?_map, Array.getElem?_toList]
       by_cases h : i < ops.size
       · rw [List.getElem?_range h]; simp [h]
       · have h2 : ops[i]? = none := by simp; omega
         rw [h2, List.getElem?_eq_none (by simp; omega)]; rfl
      rw [hl] at hop
      cases hra : List.range ops.size with
      | nil => rw [hra] at hop; cases hop
      | cons i is =>
       rw [hra] at hop
       simp only [List.map_cons, List.cons.injEq] at hop
       obtain ⟨g1, g2⟩ := hop
       refine ⟨o, i, is, k', ?_, g1.symm, hr, rfl, .cons _ _ _ _ (.ops _ _ is g2) hk⟩
       have := stepR_region (P := P) (b := b) (a := a) (k := k') (cs := cs) (w := w) (ops := ops) (id := id)
       rw [hra] at this
       exact .one this
   · cases h'
 | _ => intro k k' all l dst k1 hk h; cases h
theorem zne {ρ : Rho} {b : Frame} {a : Act} {k : List Item} {c : Frame} {cs : List Frame} {w : World} {ops : Array Oper} {i : Nat} {is : List Nat} {o : Oper} {u : Pan} {M : FrameMode}
 (ho : ops[i]? = some o) (hr : isRecover o = true) (hk : b.kind = .deferred) (hro : b.roundOf = none) (hM : PanR ρ u M) (hc : c.mode = M) :
 ∃ rv c', VR ρ (recV u) rv ∧ Go.step P (lone (b.atR a (.inRegion ops (i :: is) :: k)) (c :: cs) w) = .next (lone (b.atR (a.put o.dst rv) (.inRegion ops is :: k)) (c' :: cs) w) ∧ { c' with mode := settle c'.mode } = { c with mode := FrameMode.returning } := by
 obtain ⟨hg, cl, h1, h2⟩ := znz hr
 have hw : Region.wanted o (yielded ops a.tmps) = true := by unfold Region.wanted; rw [hg]
 have e := stepGR_op (P := P) (b := b) (a := a) (k := k) (cs := c :: cs) (w := w) (rest := is) ho hw
 rw [hro] at e
 have hs : ∀ w, (Oper.semAt none a.eval o).run P w = .ok .recover w := by
  intro w
  show (execOp a.eval o).run P w = _
  unfold execOp
  rw [h1]
  show ((resolve a.eval cl o.type >>= fun d => invoke d.target d.args) : Sem Next).run P w = _
  unfold resolve
  rw [h2]
  rfl
 have fin : ∀ u, (b.atR a (.inRegion ops (i :: is) :: k)).finish u = b.atR (a.put o.dst u) (.inRegion ops is :: k) := fun u => by rw [Frame.finish_atR, ho]; rfl
 have hkk : (b.atR a (.inRegion ops (i :: is) :: k)).kind = .deferred := hk
 have hrr : (b.atR a (.inRegion ops (i :: is) :: k)).roundOf = none := hro
 cases hM with
 | none =>
  refine ⟨.nilIface, c, .nilIface, ?_, by rw [hc]; rfl⟩
  apply step_lone_go
  rw [e, ← fin]
  have ht : tryRecover (b.atR a (.inRegion ops (i :: is) :: k)) (c :: cs) = none := by unfold tryRecover; rw [hkk]; simp only [hc]
  simp [stepG.apply, Sem.runT_eq, hs, GStep.bare_after, hrr, ht]
 | some v v' hv =>
  refine ⟨v', { c with mode := .panicking [{ v := v', recovered := true }] }, hv, ?_, rfl⟩
  apply step_lone_go
  rw [e, ← fin]
  have ht : tryRecover (b.atR a (.inRegion ops (i :: is) :: k)) (c :: cs) = some (v', { c with mode := .panicking [{ v := v', recovered := true }] } :: cs) := by unfold tryRecover; rw [hkk]; simp only [hc]
  simp [stepG.apply, Sem.runT_eq, hs, GStep.bare_after, hrr, ht]
theorem zt8 {run : Run} (hrun : zea P G run) {f : FuncId} {args cap args' cap' : List Value} {u : Pan} {M : FrameMode} {hp hp' : Hp} {k : Hp → R} {v : Value} {ρ : Rho} {w : World} {fr : Frame} {cs : List Frame} {ds : List Deferred}
 (c : CtxA P G hp ρ w) (hl : LR ρ args args') (hcp : LR ρ cap cap') (hM : PanR ρ u M) (hm : fr.mode = M) (hd : fr.defers = { target := .fn (.func f) ⟨cap'⟩, args := ⟨args'⟩ } :: ds) (h : zt9 P run f (args ++ cap) u hp k = .ok v hp') :
 ∃ hp1 ρ1 w1, k hp1 = .ok v hp' ∧ Post P G hp hp1 ρ ρ1 w w1 ∧ Steps P (lone fr cs w) (lone { fr with defers := ds, mode := .returning } cs w1) := by
 unfold zt9 at h
 cases hkf : kindOf P f with
 | no => rw [hkf] at h; cases h
 | outside => rw [hkf] at h; cases h
 | body =>
  rw [hkf] at h
  replace h : Body.rec (motive := fun _ => R) .no (zlq run f (args ++ cap) u hp k) (zbp P f) = .ok v hp' := h
  cases hb : zbp P f with
  | none => rw [hb] at h; cases h
  | some body nt rs =>
   rw [hb] at h
   replace h : zlq run f (args ++ cap) u hp k body nt rs = .ok v hp' := h
   unfold zbp at hb
   split at hb
   · rename_i fn hf
     split at hb
     · rename_i cc hbd
       rw [zar] at hb
       cases hb
       unfold zlq at h
       cases hh : zle body [] with
       | none => rw [hh] at h; cases h
       | some all l dst k1 =>
        rw [hh] at h
        simp only [zar, T.putList_eq] at h
        let b0 : Frame := { fn := f, tmps := #[], todo := [], defers := [], mode := .run, kind := .deferred }
        let a0 : Act := ⟨(⟨args' ++ cap'⟩ : Array Value) ++ Array.replicate (fn.ntmps - (⟨args' ++ cap'⟩ : Array Value).size) undef, []⟩
        have hL : LR ρ (args ++ cap) (args' ++ cap') := hl.append hcp
        obtain ⟨o, i, is, k1', s1, ho, hr, hdst, hT⟩ := zv8 (P := P) (b := b0) (a := a0) (cs := { fr with defers := ds } :: cs) (w := w) body [] [] all l dst k1 (ρ := ρ) .nil hh
        obtain ⟨rv, c', hrv, s2, hc'⟩ := zne (P := P) (ρ := ρ) (b := b0) (a := a0) (k := k1') (c := { fr with defers := ds }) (cs := cs) (w := w) (is := is) ho hr rfl rfl hM hm
        obtain ⟨d, hd0⟩ : ∃ d, zeo dst = .mk d := by
         cases hd : zeo dst with
         | mk d => exact ⟨d, rfl⟩
        rw [hd0] at h
        obtain ⟨tm1, j1, j2⟩ := zry (v' := rv) (a := a0) (sz := pick (Nat.ble (args ++ cap).length fn.ntmps) fn.ntmps (args ++ cap).length) hd0 (zif hL fn.ntmps) hrv
        replace h : d (T.setList (args ++ cap) .leaf 0) (pick (Nat.ble (args ++ cap).length fn.ntmps) fn.ntmps (args ++ cap).length) (recV u) (fun tm => onR (zf9 (run ⟨f, pick (Nat.ble (args ++ cap).length fn.ntmps) fn.ntmps (args ++ cap).length, fn.results.toList, none, true⟩ [] (.ops all l :: k1) tm hp)) .no fun _ hp => k hp) = .ok v hp' := h
        rw [j1] at h
        obtain ⟨u1, q, h1, h2⟩ := zi6 h
        obtain ⟨h1, hnp⟩ := zh8 h1
        have hfs : FS P ρ ⟨f, pick (Nat.ble (args ++ cap).length fn.ntmps) fn.ntmps (args ++ cap).length, fn.results.toList, none, true⟩ [] tm1 b0 (a0.put dst rv) :=
         ⟨rfl, rfl, rfl, fun l hl => (by cases hl), j2, (by cases dst <;> exact .nil), fun _ => ⟨fn, hf, rfl⟩⟩
        obtain ⟨v1, ρ1, w1, g1, g2, cc, rest, g3, g4⟩ := (hrun _ _ _ _ _ _ _ h1 ρ w b0 (a0.put dst rv) (.inRegion all is :: k1') (c' :: cs) c hfs hT (fun _ e => by cases e)).val hnp
        cases g3
        refine ⟨q, ρ1, w1, h2, g2, ?_⟩
        have hinv : (invoke (.fn (.func f) ⟨cap'⟩) ⟨args'⟩).run P w = .ok (.enter f ⟨args' ++ cap'⟩) w := by
         have he : (⟨args'⟩ : Array Value) ++ (⟨cap'⟩ : Array Value) = ⟨args' ++ cap'⟩ := by apply Array.ext'; simp
         show (callFunc f (⟨args'⟩ ++ ⟨cap'⟩)).run P w = _
         rw [he]
         unfold kindOf at hkf
         rw [hf] at hkf
         simp only at hkf
         cases hn : zpn fn with
         | true => rw [hn] at hkf; cases hkf
         | false =>
          have hn' : (fn.name == "runtime.NumGoroutine") = false := hn
          unfold callFunc
          rw [Sem.run_bind]
          show Result.andThen (.ok P w) _ = _
          rw [Result.andThen_ok]
          simp [hf, hn', hbd, Sem.run_pure]
        have s0 := step_defer (P := P) (fr := fr) (cs := cs) (w := w) (by rw [hm]; exact hM.notRun) hd rfl hinv
        have he : Frame.enter P f ⟨args' ++ cap'⟩ .deferred = b0.atR a0 [.code body] := by
         unfold Frame.enter
         simp only [hf, Option.map_some, Option.getD_some, Option.bind_some, hbd]
         rfl
        rw [he] at s0
        rw [hdst] at s2
        rw [hc'] at g4
        exact .head s0 (s1.trans (.head s2 g4))
     · cases hb
   · cases hb
theorem zt3 {run : Run} (hrun : zea P G run) {cs : List Frame} {v : Value} {hp' : Hp} {fr : Frame} : ∀ (dfs : List Df) (ds : List Deferred) (u : Pan) (M : FrameMode) (hp : Hp) (k : Pan → Hp → R) (ρ : Rho) (w : World), CtxA P G hp ρ w → DsR ρ dfs ds → PanR ρ u M → xunw P run dfs u hp k = .ok v hp' →
 ∃ u1 M1 hp1 ρ1 w1, k u1 hp1 = .ok v hp' ∧ PanR ρ1 u1 M1 ∧ Post P G hp hp1 ρ ρ1 w w1 ∧ Steps P (lone { fr with defers := ds, mode := M } cs w) (lone { fr with defers := [], mode := M1 } cs w1) := by
 intro dfs
 induction dfs with
 | nil => intro ds u M hp k ρ w c hd hM h; cases hd; exact ⟨u, M, hp, ρ, w, h, hM, .refl c.sat, .refl P _⟩
 | cons x dfs ih =>
  intro ds u M hp k ρ w c hds hM h
  cases hds with
  | cons _ y _ ds hx hds =>
   cases hx with
   | mark d hdk =>
    have h' : (match hp.vis d with
     | some (.dfs true) => hp.set d (some (.dfs false)) fun hp => xunw P run dfs u hp k
     | _ => .no) = .ok v hp' := h
    split at h'
    · rename_i hv
      rw [Hp.set_eq] at h'
      obtain ⟨hok, hlt, hsat⟩ := c.sat.vis _ _ hv
      have hheap : w.heap[ρ.blk d]? = some (.deferred (some [])) := hsat
      have hpost : Post P G hp (hp.upd d (some (.dfs false))) ρ ρ w (w.putObj (ρ.blk d) (.deferred none)) :=
       Post.upd c.sat hv (zi4 _ _ _) (World.putObj_heap_same hlt)
      obtain ⟨u1, M1, hp1, ρ1, w1, g1, g2, g3, g4⟩ := ih ds u M _ k ρ _ (c.after hpost) hds hM h'
      refine ⟨u1, M1, hp1, ρ1, w1, g1, g2, hpost.trans g3, .head ?_ g4⟩
      exact step_collected (P := P) (fr := { fr with defers := zho ρ d :: ds, mode := M }) (cs := cs) (w := w) (d := zho ρ d) (ds := ds) hM.notRun rfl rfl (run_takeDeferred hheap)
    · cases h'
   | call f args cap args' cap' hl hc =>
    obtain ⟨hp1, ρ1, w1, g1, g2, g3⟩ := zt8 (P := P) (G := G) hrun (fr := { fr with defers := { target := .fn (.func f) ⟨cap'⟩, args := ⟨args'⟩ } :: ds, mode := M }) (cs := cs) (ds := ds) c hl hc hM rfl rfl h
    obtain ⟨u2, M2, hp2, ρ2, w2, j1, j2, j3, j4⟩ := ih ds none .returning hp1 k ρ1 w1 (c.after g2) (hds.mono g2.ext) .none g1
    exact ⟨u2, M2, hp2, ρ2, w2, j1, j2, g2.trans j3, g3.trans j4⟩
theorem zij {run : Run} (hrun : zea P G run) {S : St} {dfs : List Df} {tm : T Value} {b : Frame} {a : Act} {todo : List Item} {hp hp' : Hp} {ρ : Rho} {w : World} {cs : List Frame} {jump : Option Code} {v : Value} (c : CtxA P G hp ρ w) (hf : FS P ρ S dfs tm b a)
 (hcs : zeu S → cs ≠ []) (h : zik P run hp tm S dfs jump = .ok v hp')
 (hn : b.roundOf = none → Go.step P (lone (b.atR a todo) cs w) = .next (lone { b.atR a todo with mode := .returning } cs w))
 (hr : ∀ l u w' c rest, b.roundOf = some l → cs = c :: rest → (Instr.endRound l jump).run P w = .ok u w' → Go.step P (lone (b.atR a todo) cs w) = .next (lone (c.finish u) rest w')) :
 Concl P G S hp hp' ρ w v (b.atR a todo) cs := by
 refine .inl ?_
 unfold zik at h
 cases hro : S.ro with
 | none =>
  rw [hro] at h
  replace h : xunw P run dfs none hp (fun u hp => zaf u (zcc P hp tm S.res fun vs => .ok (zef vs) hp) fun _ => .no) = .ok v hp' := h
  have hbro : b.roundOf = none := by rw [hf.ro, hro]; rfl
  obtain ⟨u1, M1, hp1, ρ1, w1, g1, gM, g2, g3⟩ := zt3 hrun (cs := cs) (fr := b.atR a todo) dfs a.defers none .returning hp _ ρ w c hf.defers .none h
  cases gM with
  | some x x' _ => cases g1
  | none =>
   replace g1 : zcc P hp1 tm S.res (fun vs => .ok (zef vs) hp1) = .ok v hp' := g1
   obtain ⟨vs, vs', k1, k2, k3⟩ := zii g2.sat (hf.tm.mono g2.ext) _ _ g1
   cases k1
   obtain ⟨fn, j1, j2⟩ := hf.res hro
   have hst : Steps P (lone (b.atR a todo) cs w) (lone { b.atR a todo with mode := .returning, defers := [] } cs w1) := by
    refine .head (hn hbro) ?_
    exact g3
   have hfn : P.funcs[({ b.atR a todo with mode := .returning, defers := [] } : Frame).fn]? = some fn := by show P.funcs[b.fn]? = _; rw [hf.fn]; exact j1
   have hres : (results fn a.tmps).run P w1 = .ok (zef vs') w1 := ziy (by rw [j2]; exact k3)
   refine ⟨zef vs', ρ1, w1, zna k2, g2, ?_⟩
   unfold Ends
   cases hk : S.kd with
   | false =>
    rw [hro]
    exact ⟨{ b.atR a todo with mode := .returning, defers := [] }, hst, hf.fn, rfl, rfl, by show b.kind = _; rw [hf.kind, hk]; rfl, fn, hfn, hres⟩
   | true =>
    rw [hro]
    cases cs with
    | nil => exact absurd rfl (hcs (.inr hk))
    | cons c0 rest =>
     refine ⟨c0, rest, rfl, hst.trans (.one ?_)⟩
     exact step_going_returned (fr := { b.atR a todo with mode := .returning, defers := [] }) (by show b.kind = _; rw [hf.kind, hk]; rfl) ⟨rfl, rfl, fn, hfn, hres⟩
 | some l =>
  rw [hro] at h
  cases dfs with
  | cons d ds => cases h
  | nil =>
   replace h : zfr hp l jump = .ok v hp' := h
   obtain ⟨v', w', g1, g2, g3⟩ := zm5 c.sat h
   refine ⟨v', ρ, w', g2, g3, ?_⟩
   unfold Ends
   rw [hro]
   cases cs with
   | nil => exact absurd rfl (hcs (.inl (by rw [hro]; intro e; cases e)))
   | cons c0 rest =>
    refine ⟨c0, rest, rfl, .one ?_⟩
    exact hr _ _ _ _ _ (by rw [hf.ro, hro]; rfl) rfl g1
theorem zm4 {run : Run} (hrun : zea P G run) {S : St} {dfs : List Df} {tm : T Value} {b : Frame} {a : Act} {todo : List Item} {hp hp' : Hp} {ρ : Rho} {w : World} {cs : List Frame} {v u u' : Value} (c : CtxA P G hp ρ w) (hf : FS P ρ S dfs tm b a)
 (hu : VR ρ u u') (h : ze9 P run hp tm S dfs u = .ok v hp') : Concl P G S hp hp' ρ w v { b.atR a todo with mode := .panicking [{ v := u', recovered := false }] } cs := by
 unfold ze9 at h
 cases hro : S.ro with
 | some l => rw [hro] at h; cases h
 | none =>
  rw [hro] at h
  cases hk : S.kd with
  | true => rw [hk] at h; cases h
  | false =>
   rw [hk] at h
   replace h : xunw P run dfs (some u) hp (fun u hp => zt4 P hp tm S u) = .ok v hp' := h
   obtain ⟨u1, M1, hp1, ρ1, w1, g1, gM, g2, g3⟩ := zt3 hrun (cs := cs) (fr := b.atR a todo) dfs a.defers (some u) _ hp _ ρ w c hf.defers (.some u u' hu) h
   obtain ⟨fn, j1, j2⟩ := hf.res hro
   have hfn : P.funcs[b.fn]? = some fn := by rw [hf.fn]; exact j1
   have hst : Steps P (lone ({ b.atR a todo with mode := .panicking [{ v := u', recovered := false }] } : Frame) cs w) (lone { b.atR a todo with mode := M1, defers := [] } cs w1) := g3
   cases gM with
   | none =>
    replace g1 : zcc P hp1 tm S.res (fun vs => .ok (zef vs) hp1) = .ok v hp' := g1
    obtain ⟨vs, vs', k1, k2, k3⟩ := zii g2.sat (hf.tm.mono g2.ext) _ _ g1
    cases k1
    refine .inl ⟨zef vs', ρ1, w1, zna k2, g2, ?_⟩
    unfold Ends
    rw [hro, hk]
    exact ⟨{ b.atR a todo with mode := .returning, defers := [] }, hst, hf.fn, rfl, rfl, by show b.kind = _; rw [hf.kind, hk]; rfl, fn, hfn, ziy (by rw [j2]; exact k3)⟩
   | some x x' hx =>
    have e : R.ok (panV x) hp1 = .ok v hp' := g1
    cases e
    exact .inr ⟨x, x', ρ1, w1, rfl, hx, g2, hro, hk, _, hst, hf.fn, rfl, rfl, fn, hfn⟩
end Go.Proofs.YtelanmknimapoaaGreatDoor.Sx
/- An executor of closed runs: a frame's steps. -/
namespace Go.Proofs.YtelanmknimapoaaGreatDoor.Sx
open Go
variable {P : Program} {G : Env}
theorem zfu {all : List Oper} {o : Oper} (h : zbk all o.guard = .yes) (y : Nat → Option Bool) : Region.wanted o y = true := by
 unfold zbk at h
 unfold Region.wanted
 cases hg : o.guard with
 | none => rfl
 | some x =>
  obtain ⟨j, want⟩ := x
  rw [hg] at h
  simp only at h
  split at h
  · rename_i d hd
    obtain ⟨g, hg, _⟩ := T.getPath_spec (α := Value) (d + 1) d (Nat.lt_succ_self d)
    rw [hg] at h
    replace h : zkk want (fun want => WBx.ask fun tm a b => askB want (g tm) a b) = .yes := h
    rw [zd3] at h
    cases h
  · cases h
theorem zks {ρ : Rho} {v v' : Value} (h : VR ρ v v') (hb : ∀ b, v ≠ .bool b) (hs : ∀ i, v ≠ .chan (some i)) : ∀ b, v' ≠ .bool b := by
 intro b e
 cases h with
 | sym i => exact hs _ rfl
 | bool b => exact hb _ rfl
 | _ => cases e
theorem zxq {all : Array Oper} {o : Oper} {f : T Value → R → R → R} (h : zbk all.toList o.guard = .ask f) {ρ : Rho} {tm : T Value} {sz : Nat} {tmps : Array Value} (ht : tmR ρ tm sz tmps) :
 (Region.wanted o (yielded all tmps) = true ∧ ∀ a b, f tm a b = a) ∨ (Region.wanted o (yielded all tmps) = false ∧ ∀ a b, f tm a b = b) ∨ ∀ a b, f tm a b = .no := by
 unfold zbk at h
 unfold Region.wanted
 cases hg : o.guard with
 | none => rw [hg] at h; cases h
 | some x =>
  obtain ⟨j, want⟩ := x
  rw [hg] at h
  simp only at h ⊢
  split at h
  · rename_i d hd
    obtain ⟨g, hgp, hgs⟩ := T.getPath_spec (α := Value) (d + 1) d (Nat.lt_succ_self d)
    rw [hgp] at h
    replace h : zkk want (fun want => WBx.ask fun tm a b => askB want (g tm) a b) = .ask f := h
    rw [zd3] at h
    cases h
    have hd' : (all[j]?).bind (·.dst) = some d := by rw [← hd]; simp
    have hy : yielded all tmps j = match tmps[d]? with | some (.bool b) => some b | _ => none := by
     unfold yielded
     rw [hd']
     rfl
    have hv := ht.2 d
    have hev : evA tm (.tmp d) = zaf (tm.get d) undef fun v => v := rfl
    rw [hev] at hv
    have key : (∃ b, tm.get d = some (.bool b)) ∨ ((∀ a b, askB want (tm.get d) a b = b) ∧ (∀ b, zaf (tm.get d) undef (fun v => v) ≠ .bool b) ∧ ∀ i, zaf (tm.get d) undef (fun v => v) ≠ .chan (some i)) ∨ (∀ a b, askB want (tm.get d) a b = .no) := by
     cases hgd : tm.get d with
     | none => exact .inr (.inl ⟨fun a b => rfl, fun b e => (by cases e), fun i e => by cases e⟩)
     | some u => cases u <;> first
      | exact .inl ⟨_, rfl⟩
      | exact .inr (.inl ⟨fun a b => rfl, fun b e => (by cases e), fun i e => by cases e⟩)
      | (rename_i r; cases r <;> first
       | exact .inr (.inl ⟨fun a b => rfl, fun b e => (by cases e), fun i e => by cases e⟩)
       | exact .inr (.inr fun a b => rfl))
    rcases key with ⟨t, ht1⟩ | ⟨h1, h2, h2s⟩ | h1
    · rw [ht1] at hv
      replace hv : VR ρ (.bool t) (tmps.getD d undef) := hv
      have hval : tmps[d]? = some (.bool t) := by
       have h3 : tmps.getD d undef = .bool t := by generalize tmps.getD d undef = z at hv; cases hv; rfl
       rw [Array.getD_eq_getD_getElem?] at h3
       cases hz : tmps[d]? with
       | none => rw [hz] at h3; cases h3
       | some z => rw [hz] at h3; exact congrArg some h3
      rw [hval] at hy
      rw [hy]
      have hf : ∀ a b, askB want (g tm) a b = pick (pick t want (pick want false true)) a b := fun a b => by rw [hgs, ht1]; rfl
      cases t <;> cases want <;> first
       | exact .inl ⟨rfl, hf⟩
       | exact .inr (.inl ⟨rfl, hf⟩)
    · right; left
      refine ⟨?_, fun a b => by show askB want (g tm) a b = b; rw [hgs]; exact h1 a b⟩
      have h3 := zks hv h2 h2s
      have : yielded all tmps j = none := by
       rw [hy]
       cases hz : tmps[d]? with
       | none => rfl
       | some z =>
        have h4 : tmps.getD d undef = z := by rw [Array.getD_eq_getD_getElem?, hz]; rfl
        rw [h4] at h3
        cases z <;> first | rfl | exact absurd rfl (h3 _)
      rw [this]
      rfl
    · exact .inr (.inr fun a b => by show askB want (g tm) a b = _; rw [hgs]; exact h1 a b)
  · cases h
def zt1 (P : Program) (G : Env) : Prop :=
 ∀ (run : Run) (ops : Array Oper) (l : List Step) (S : St) (dfs : List Df) (K : T Value → Hp → R) (tm : T Value) (hp : Hp) (v : Value) (hp' : Hp), zea P G run → zk3 P G ops.toList = some l →
  zkf (oper P run) S.sz l [] [] tm hp K = .ok v hp' → ∀ ρ w b a cs id k', CtxA P G hp ρ w → FS P ρ S dfs tm b a →
  ∃ tm1 hp1 ρ1 w1 a1, K tm1 hp1 = .ok v hp' ∧ Post P G hp hp1 ρ ρ1 w w1 ∧ FS P ρ1 S dfs tm1 b a1 ∧
   Steps P (lone (b.atR a (.code (.region id ops true) :: k')) cs w) (lone (b.atR a1 k') cs w1)
abbrev Con := St → Hp → Hp → Rho → World → Value → Frame → List Frame → Prop
structure IsC (P : Program) (G : Env) (C : Con) : Prop where
 leaf : ∀ {S hp hp' ρ w v fr cs}, Concl P G S hp hp' ρ w v fr cs → C S hp hp' ρ w v fr cs
 go : ∀ {S hp hp1 hp' ρ ρ1 w w1 v fr fr1 cs}, CtxA P G hp ρ w → Post P G hp hp1 ρ ρ1 w w1 → Steps P (lone fr cs w) (lone fr1 cs w1) → C S hp1 hp' ρ1 w1 v fr1 cs → C S hp hp' ρ w v fr cs
def RunC (P : Program) (G : Env) (C : Con) (run : Run) : Prop :=
 ∀ S dfs todo tm hp v hp', run S dfs todo tm hp = .ok v hp' → ∀ ρ w b a todo' cs, CtxA P G hp ρ w → FS P ρ S dfs tm b a → TR ρ todo todo' → (zeu S → cs ≠ []) → C S hp hp' ρ w v (b.atR a todo') cs
theorem zv3 : IsC P G (Concl P G) :=
 ⟨id, fun _ p hst h => by
  rcases h with ⟨v', ρ', w', g1, g2, g3⟩ | ⟨u, u', ρ', w', e, g1, g2, g3⟩
  · exact .inl ⟨v', ρ', w', g1, p.trans g2, g3.head hst⟩
  · exact .inr ⟨u, u', ρ', w', e, g1, p.trans g2, g3.head hst⟩⟩
theorem zcs {C : Con} (hC : IsC P G C) {run : Run} (hrun : RunC P G C run) {S : St} {dfs : List Df} {todo : List AItem} {tm : T Value} {hp hp1 hp' : Hp} {ρ ρ1 : Rho} {w w1 : World} {v : Value} {fr b : Frame} {a1 : Act} {t1 : List Item} {cs : List Frame}
 (c : CtxA P G hp ρ w) (p : Post P G hp hp1 ρ ρ1 w w1) (hf : FS P ρ1 S dfs tm b a1) (ht : TR ρ1 todo t1) (hcs : zeu S → cs ≠ []) (hst : Steps P (lone fr cs w) (lone (b.atR a1 t1) cs w1))
 (h : run S dfs todo tm hp1 = .ok v hp') : C S hp hp' ρ w v fr cs :=
 hC.go c p hst (hrun _ _ _ _ _ _ _ h ρ1 w1 b a1 t1 cs (c.after p) hf ht hcs)
theorem zo4 {b : Frame} {a : Act} {k : List Item} {cs : List Frame} {w : World} {c : Code} :
 Go.step P (lone (b.atR a (.code (.scope c) :: k)) cs w) = .next (lone (b.atR a (.code c :: .inScope c :: k)) cs w) :=
 step_lone_go (by simp [stepG, stepG.exec, Frame.atR])
theorem zlw {b : Frame} {a : Act} {k : List Item} {cs : List Frame} {w : World} {c : Code} :
 Go.step P (lone (b.atR a (.inScope c :: k)) cs w) = .next (lone (b.atR a k) cs w) :=
 step_lone_go (by simp [stepG, stepG.exec, Frame.atR])
theorem zb0 {o : Oper} (h : bxOf P G o ≠ .bad) : ∀ c, o.op ≠ .defer c := by
 intro c e
 apply h
 unfold bxOf yam bxOp
 rw [e]
 cases zf6 G (Op.defer c).operands.toList
 · rfl
 · exact ztd (o := o)
theorem zvd {run : Run} (hrun : zea P G run) {S : St} {dfs : List Df} {tm : T Value} {hp hp' : Hp} {ρ : Rho} {w : World} {v : Value} {b : Frame} {a : Act} {cs : List Frame} {ops : Array Oper} {i : Nat} {rest : List Nat} {k : List Item} {o : Oper}
 (c : CtxA P G hp ρ w) (hf : FS P ρ S dfs tm b a) (ho : ops[i]? = some o) (hw : Region.wanted o (yielded ops a.tmps) = true) (h : oper P run tm hp (bxOf P G o) = .ok v hp') :
 ∃ v' ρ' w', VR ρ' v v' ∧ Post P G hp hp' ρ ρ' w w' ∧ Steps P (lone (b.atR a (.inRegion ops (i :: rest) :: k)) cs w) (lone (b.atR (a.put o.dst v') (.inRegion ops rest :: k)) cs w') := by
 have fin : ∀ u, (b.atR a (.inRegion ops (i :: rest) :: k)).finish u = b.atR (a.put o.dst u) (.inRegion ops rest :: k) := fun u => by rw [Frame.finish_atR, ho]; rfl
 cases hb : bxOf P G o with
 | bad => rw [hb] at h; cases h
 | op f =>
  rw [hb] at h
  replace h : f tm hp = .ok v hp' := h
  have hd := zb0 (P := P) (G := G) (o := o) (by rw [hb]; intro e; cases e)
  obtain ⟨h1, h2⟩ := zw1 hb
  have D := zj1 (P := P) (b := b) (k := k) (cs := cs) (w := w) (rest := rest) ho hw hd
  obtain ⟨nx, v', ρ', w', g1, g2, g3, g4⟩ := h2 tm hp v hp' h ρ w _ a.eval (c.ctx _) (fun x hx => hf.eval c.sat (h1 x hx)) (Nat.le_refl _)
  have := D.val nx v' w' g1 g2
  rw [fin] at this
  exact ⟨v', ρ', w', g3, g4, .one this⟩
 | call f =>
  rw [hb] at h
  replace h : come P run hp (f tm hp) = .ok v hp' := h
  have hd := zb0 (P := P) (G := G) (o := o) (by rw [hb]; intro e; cases e)
  obtain ⟨h1, _, h2⟩ := zj5 hb
  have D := zj1 (P := P) (b := b) (k := k) (cs := cs) (w := w) (rest := rest) ho hw hd
  have hcr := h2 tm hp ρ w hp.next a.eval (c.ctx _) (fun x hx => hf.eval c.sat (h1 x hx)) (fun f => rfl)
  obtain ⟨v', ρ', w', g1, g2, g3⟩ := zhc hrun c hcr D h
  rw [fin] at g3
  exact ⟨v', ρ', w', g1, g2, g3⟩
theorem zys {run : Run} (hrun : zea P G run) {S : St} {dfs : List Df} {tm : T Value} {hp hp' : Hp} {ρ : Rho} {w : World} {v : Value} {b : Frame} {a : Act} {cs : List Frame} {ops : Array Oper} {i : Nat} {rest : List Nat} {k : List Item} {o : Oper}
 (c : CtxA P G hp ρ w) (hf : FS P ρ S dfs tm b a) (ho : ops[i]? = some o) (hw : Region.wanted o (yielded ops a.tmps) = true) (h : zvf P run tm hp (bxOf P G o) = .ok v hp') :
 (∃ v' ρ' w', VR ρ' v v' ∧ Post P G hp hp' ρ ρ' w w' ∧ Steps P (lone (b.atR a (.inRegion ops (i :: rest) :: k)) cs w) (lone (b.atR (a.put o.dst v') (.inRegion ops rest :: k)) cs w')) ∨
 ∃ u u' ρ' w', v = panV u ∧ VR ρ' u u' ∧ Post P G hp hp' ρ ρ' w w' ∧ Steps P (lone (b.atR a (.inRegion ops (i :: rest) :: k)) cs w) (lone { b.atR a (.inRegion ops (i :: rest) :: k) with mode := .panicking [{ v := u', recovered := false }] } cs w') := by
 cases hb : bxOf P G o with
 | bad => rw [hb] at h; cases h
 | op f =>
  rw [hb] at h
  refine .inl (zvd hrun c hf ho hw ?_)
  rw [hb]; exact h
 | call f =>
  rw [hb] at h
  replace h : yac P run hp (f tm hp) = .ok v hp' := h
  have fin : ∀ u, (b.atR a (.inRegion ops (i :: rest) :: k)).finish u = b.atR (a.put o.dst u) (.inRegion ops rest :: k) := fun u => by rw [Frame.finish_atR, ho]; rfl
  have hd := zb0 (P := P) (G := G) (o := o) (by rw [hb]; intro e; cases e)
  obtain ⟨h1, _, h2⟩ := zj5 hb
  have D := zj1 (P := P) (b := b) (k := k) (cs := cs) (w := w) (rest := rest) ho hw hd
  have hcr := h2 tm hp ρ w hp.next a.eval (c.ctx _) (fun x hx => hf.eval c.sat (h1 x hx)) (fun f => rfl)
  rcases yab hrun c hcr D h with ⟨v', ρ', w', g1, g2, g3⟩ | h
  · rw [fin] at g3
    exact .inl ⟨v', ρ', w', g1, g2, g3⟩
  · exact .inr h
theorem FS.put {ρ : Rho} {S : St} {dfs : List Df} {tm tm1 : T Value} {b : Frame} {a : Act} {dst : Option Tmp} {v' : Value} (h : FS P ρ S dfs tm b a) (ht : tmR ρ tm1 S.sz (a.put dst v').tmps) : FS P ρ S dfs tm1 b (a.put dst v') :=
 ⟨h.fn, h.kind, h.ro, h.rook, ht, by cases dst <;> exact h.defers, h.res⟩
end Go.Proofs.YtelanmknimapoaaGreatDoor.Sx
/- An executor of closed runs: every item. -/
namespace Go.Proofs.YtelanmknimapoaaGreatDoor.Sx
open Go
variable {P : Program} {G : Env}
theorem zva (ops : Array Oper) : ops.toList.map some = (List.range ops.size).map (fun i => ops[i]?) := by
 apply List.ext_getElem?
 intro i
 simp only [List.getElem?_map, Array.getElem?_toList]
 by_cases h : i < ops.size
 · rw [List.getElem?_range h]; simp [h]
 · have h2 : ops[i]? = none := by simp; omega
   rw [h2, List.getElem?_eq_none (by simp; omega)]; rfl
section
variable {C : Con} {nest run : Run} {S : St} {dfs : List Df} {k : List AItem} {tm : T Value} {hp hp' : Hp} {ρ : Rho} {w : World} {v : Value} {b : Frame} {a : Act} {k' : List Item} {cs : List Frame}
theorem zsl {o : Oper} {cl : Call} (h : spOf o = .defer cl) : o.op = .defer cl := by
 unfold spOf at h
 split at h
 · rename_i c e; cases h; exact e
 · cases h
 · cases h
theorem zsk {o : Oper} {x : Operand} (h : spOf o = .panic x) : o.op = .panic x := by
 unfold spOf at h
 split at h
 · cases h
 · rename_i c e; cases h; exact e
 · cases h
theorem LR.mapEv {l : List Operand} (h : ∀ x ∈ l, VR ρ (evA tm x) (a.eval x)) : LR ρ (l.map (evA tm)) (l.map a.eval) := by
 induction l with
 | nil => exact .nil
 | cons x l ih => exact .cons _ _ _ _ (h x (.head _)) (ih fun y hy => h y (.tail _ hy))
theorem ztj (hC : IsC P G C) (hrun : RunC P G C run) (c : CtxA P G hp ρ w) (hf : FS P ρ S dfs tm b a) (_hk : TR ρ k k') (hcs : zeu S → cs ≠ []) {all : Array Oper} {l : List Oper} {i : Nat} {is : List Nat} {o : Oper} {cl : Call} {d : Dst} (ho : all[i]? = some o) (_hl : l.map some = is.map (fun i => all[i]?))
 (hop : o.op = .defer cl) (hd : zeo o.dst = .mk d) (hnext : ∀ ρ1, ρ.Le ρ1 → TR ρ1 (.ops all l :: k) (.inRegion all is :: k'))
 (h : IBx.rec (motive := fun _ => R) (fun f => f nest run S dfs k tm hp) (zjl G all l cl (zbk all.toList o.guard) d) = .ok v hp') : C S hp hp' ρ w v (b.atR a (.inRegion all (i :: is) :: k')) cs := by
 unfold zjl at h
 split at h
 · rename_i g hcal hw
   cases hok : zf6 G (g :: cl.args.toList) with
   | false => rw [hok] at h; cases h
   | true =>
    rw [hok] at h
    replace h : zaf S.ro (zrd (evA tm g) .no fun fn first cap => onFn fn .no fun f => zhr (first ++ cl.args.toList.map (evA tm)) fun as => d tm S.sz undef fun tm => run S (.call f as cap :: dfs) (.ops all l :: k) tm hp) (fun _ => .no) = .ok v hp' := h
    cases hro : S.ro with
    | some r => rw [hro] at h; cases h
    | none =>
     rw [hro] at h
     replace h : (zrd (evA tm g) .no fun fn first cap => onFn fn .no fun f => zhr (first ++ cl.args.toList.map (evA tm)) fun as => d tm S.sz undef fun tm => run S (.call f as cap :: dfs) (.ops all l :: k) tm hp) = .ok v hp' := h
     have hmem := zg2 hok
     have hg := hf.eval c.sat (hmem g (.head _))
     have hargs : LR ρ (cl.args.toList.map (evA tm)) (cl.args.toList.map a.eval) := LR.mapEv fun x hx => hf.eval c.sat (hmem x (.tail _ hx))
     generalize hgv : a.eval g = gv at hg
     generalize evA tm g = gx at hg h
     cases hg with
     | func fn x y x' y' hy hx hyy =>
      cases fn with
      | func f =>
       replace h : zhr (x ++ cl.args.toList.map (evA tm)) (fun as => d tm S.sz undef fun tm => run S (.call f as y :: dfs) (.ops all l :: k) tm hp) = .ok v hp' := h
       rw [zjx] at h
       obtain ⟨tm1, j1, j2⟩ := zry (v' := undef) (a := a) hd hf.tm VR.undef
       rw [j1] at h
       have hbro : b.roundOf = none := by rw [hf.ro, hro]; rfl
       let D : Deferred := { target := .fn (.func f) ⟨y'⟩, args := ⟨x' ++ cl.args.toList.map a.eval⟩ }
       have hwd : Region.wanted o (yielded all a.tmps) = true := zfu hw _
       have e := stepGR_op (P := P) (b := b) (a := a) (k := k') (cs := cs) (w := w) (rest := is) ho hwd
       rw [hbro, Oper.semAt_none] at e
       have hs : ∀ w, (execOp a.eval o).run P w = .ok (.defer D) w := by
        intro w
        unfold execOp
        rw [hop]
        show ((resolve a.eval cl o.type >>= fun d => pure (Next.defer d)) : Sem Next).run P w = _
        unfold resolve
        rw [hcal]
        show ((Deferred.ofValue (a.eval g) (cl.args.map a.eval) >>= fun d => pure (Next.defer d)) : Sem Next).run P w = _
        rw [hgv]
        show Result.ok (Next.defer { target := .fn (.func f) ⟨y'⟩, args := ⟨x'⟩ ++ cl.args.map a.eval }) w = _
        have he : (⟨x'⟩ : Array Value) ++ cl.args.map a.eval = ⟨x' ++ cl.args.toList.map a.eval⟩ := by apply Array.ext'; simp
        rw [he]
       have hst : Go.step P (lone (b.atR a (.inRegion all (i :: is) :: k')) cs w) = .next (lone (b.atR ({ a with defers := D :: a.defers }.put o.dst undef) (.inRegion all is :: k')) cs w) := by
        apply step_lone_go
        rw [e]
        have fin : ({ b.atR a (.inRegion all (i :: is) :: k') with defers := D :: a.defers } : Frame).finish undef = b.atR ({ a with defers := D :: a.defers }.put o.dst undef) (.inRegion all is :: k') := by
         have := Frame.finish_atR b { a with defers := D :: a.defers } all i is k' undef
         rw [ho] at this
         exact this
        rw [← fin]
        simp [stepG.apply, Sem.runT_eq, hs, GStep.bare_after, Frame.atR]
       have hput : ({ a with defers := D :: a.defers }.put o.dst undef).tmps = (a.put o.dst undef).tmps := by cases o.dst <;> rfl
       have hdf : ({ a with defers := D :: a.defers }.put o.dst undef).defers = D :: a.defers := by cases o.dst <;> rfl
       refine zcs hC hrun c (.refl c.sat) (a1 := { a with defers := D :: a.defers }.put o.dst undef) ⟨hf.fn, hf.kind, hf.ro, hf.rook, by rw [hput]; exact j2, ?_, hf.res⟩ (hnext ρ (.refl ρ)) hcs (.one hst) h
       rw [hdf]
       exact .cons _ _ _ _ (.call f _ _ _ _ (hx.append hargs) hyy) hf.defers
      | _ => cases h
     | _ => cases h
 · cases h
theorem zsv (hC : IsC P G C) (hnest : zea P G nest) (c : CtxA P G hp ρ w) (hf : FS P ρ S dfs tm b a) {all : Array Oper} {i : Nat} {is : List Nat} {o : Oper} {x : Operand} (ho : all[i]? = some o) (hop : o.op = .panic x)
 (h : IBx.rec (motive := fun _ => R) (fun f => f nest run S dfs k tm hp) (zjk P G x (zbk all.toList o.guard)) = .ok v hp') : C S hp hp' ρ w v (b.atR a (.inRegion all (i :: is) :: k')) cs := by
 unfold zjk at h
 split at h
 · rename_i hw
   cases hok : ze7 G x with
   | false => rw [hok] at h; cases h
   | true =>
    rw [hok] at h
    replace h : (zl8 (evA tm x) .no .no fun t v => ze9 P nest hp tm S dfs (.iface t v)) = .ok v hp' := h
    have hx := hf.eval c.sat hok
    generalize hgv : a.eval x = xv at hx
    generalize evA tm x = xx at hx h
    cases hx with
    | iface t y y' hy =>
     replace h : ze9 P nest hp tm S dfs (.iface t y) = .ok v hp' := h
     have hwd : Region.wanted o (yielded all a.tmps) = true := zfu hw _
     have e := stepGR_op (P := P) (b := b) (a := a) (k := k') (cs := cs) (w := w) (rest := is) ho hwd
     rw [Oper.semAt_eq _ _ _ (by rw [hop]; intro c e; cases e)] at e
     have hs : ∀ w, (execOp a.eval o).run P w = .halt (.panic (.iface t y')) w := by
      intro w
      unfold execOp
      rw [hop]
      show ((Instr.panic (a.eval x) >>= fun v => pure (Next.value v)) : Sem Next).run P w = _
      rw [hgv]
      rfl
     have hst : Go.step P (lone (b.atR a (.inRegion all (i :: is) :: k')) cs w) = .next (lone { b.atR a (.inRegion all (i :: is) :: k') with mode := .panicking [{ v := .iface t y', recovered := false }] } cs w) := by
      apply step_lone_go
      rw [e]
      simp [stepG.apply, Sem.runT_eq, hs, GStep.bare_after, Frame.raise_atR]
     exact hC.go c (.refl c.sat) (.one hst) (hC.leaf (zm4 hnest c hf (.iface t y y' hy) h))
    | _ => cases h
 · cases h
theorem zyq (hC : IsC P G C) (hnest : zea P G nest) (hrun : RunC P G C run) (c : CtxA P G hp ρ w) (hf : FS P ρ S dfs tm b a) (hk : TR ρ k k') (hcs : zeu S → cs ≠ []) {all : Array Oper} {l : List Oper} {is : List Nat} (hl : l.map some = is.map (fun i => all[i]?))
 (h : IBx.rec (motive := fun _ => R) (fun f => f nest run S dfs k tm hp) (zv7 P G (.ops all l)) = .ok v hp') : C S hp hp' ρ w v (b.atR a (.inRegion all is :: k')) cs := by
 cases l with
 | nil =>
  cases is with
  | cons i is => cases hl
  | nil => exact zcs hC hrun c (.refl c.sat) hf hk hcs (.one stepR_region_end) h
 | cons o l =>
  cases is with
  | nil => cases hl
  | cons i is =>
   simp only [List.map_cons, List.cons.injEq] at hl
   obtain ⟨ho, hl⟩ := hl
   have ho : all[i]? = some o := ho.symm
   have hnext : ∀ ρ1, ρ.Le ρ1 → TR ρ1 (.ops all l :: k) (.inRegion all is :: k') := fun ρ1 le => .cons _ _ _ _ (.ops all l is hl) (hk.mono le)
   obtain ⟨d, hd⟩ : ∃ d, zeo o.dst = .mk d := by
    cases hd : zeo o.dst with
    | mk d => exact ⟨d, rfl⟩
   -- the operation is done
   have done : Region.wanted o (yielded all a.tmps) = true → ze6 P nest (zvf P nest tm hp (bxOf P G o)) run S dfs (.ops all l :: k) tm d = .ok v hp' → C S hp hp' ρ w v (b.atR a (.inRegion all (i :: is) :: k')) cs := by
    intro hw h
    unfold ze6 at h
    obtain ⟨u, q, g0, h⟩ := zi6 h
    rcases zys (rest := is) (k := k') (cs := cs) hnest c hf ho hw g0 with ⟨u', ρ1, w1, g1, g2, g3⟩ | ⟨x, x', ρ1, w1, e, g1, g2, g3⟩
    · rcases zh5 h with ⟨y, e, _⟩ | ⟨_, h⟩
      · subst e; exact absurd g1 zud
      · obtain ⟨tm1, j1, j2⟩ := zry (v' := u') hd (hf.tm.mono g2.ext) g1
        rw [j1] at h
        exact zcs hC hrun c g2 ((hf.mono g2.ext).put j2) (hnext ρ1 g2.ext) hcs g3 h
    · subst e
      replace h : ze9 P nest q tm S dfs x = .ok v hp' := h
      exact hC.go c g2 g3 (hC.leaf (zm4 hnest (c.after g2) (hf.mono g2.ext) g1 h))
   -- it is not
   have skip : Region.wanted o (yielded all a.tmps) = false → (d tm S.sz undef fun tm => run S dfs (.ops all l :: k) tm hp) = .ok v hp' → C S hp hp' ρ w v (b.atR a (.inRegion all (i :: is) :: k')) cs := by
    intro hw h
    obtain ⟨tm1, j1, j2⟩ := zry (v' := undef) hd hf.tm VR.undef
    rw [j1] at h
    have hst := stepR_op_skip (P := P) (b := b) (a := a) (k := k') (cs := cs) (w := w) (ops := all) (i := i) (rest := is) (by rw [ho]; exact hw)
    rw [ho] at hst
    exact zcs hC hrun c (.refl c.sat) (hf.put j2) (hnext ρ (.refl ρ)) hcs (.one hst) h
   have h' : IBx.rec (motive := fun _ => R) (fun f => f nest run S dfs k tm hp) (DBx.rec (motive := fun _ => IBx) (fun d =>
    Sp.rec (motive := fun _ => IBx) (ibOp P all l (zbk all.toList o.guard) (bxOf P G o) d) (fun c => zjl G all l c (zbk all.toList o.guard) d) (fun x => zjk P G x (zbk all.toList o.guard)) (spOf o)) (zeo o.dst)) = .ok v hp' := h
   rw [hd] at h'
   replace h' : IBx.rec (motive := fun _ => R) (fun f => f nest run S dfs k tm hp) (Sp.rec (motive := fun _ => IBx) (ibOp P all l (zbk all.toList o.guard) (bxOf P G o) d) (fun c => zjl G all l c (zbk all.toList o.guard) d) (fun x => zjk P G x (zbk all.toList o.guard)) (spOf o)) = .ok v hp' := h'
   cases hsp : spOf o with
   | defer cl =>
    rw [hsp] at h'
    exact ztj hC hrun c hf hk hcs ho hl (zsl hsp) hd hnext h'
   | panic x =>
    rw [hsp] at h'
    exact zsv hC hnest c hf ho (zsk hsp) h'
   | no =>
   rw [hsp] at h'
   replace h' : IBx.rec (motive := fun _ => R) (fun f => f nest run S dfs k tm hp) (ibOp P all l (zbk all.toList o.guard) (bxOf P G o) d) = .ok v hp' := h'
   cases hw : zbk all.toList o.guard with
   | bad => rw [hw] at h'; cases h'
   | yes =>
    rw [hw] at h'
    refine done (zfu hw _) ?_
    cases hb : bxOf P G o with
    | bad => rw [hb] at h'; cases h'
    | op f =>
     rw [hb] at h'
     obtain ⟨u, q, g0, g1⟩ := zi6 (show onR (f tm hp) .no (fun v hp => d tm S.sz v fun tm => run S dfs (.ops all l :: k) tm hp) = .ok v hp' from h')
     show onR (f tm hp) .no (fun v hp => zs1 v (d tm S.sz v fun tm => run S dfs (.ops all l :: k) tm hp) fun u => ze9 P nest hp tm S dfs u) = .ok v hp'
     rw [g0]
     show zs1 u (d tm S.sz u fun tm => run S dfs (.ops all l :: k) tm q) (fun u => ze9 P nest q tm S dfs u) = .ok v hp'
     by_cases hv : ∃ y, u = panV y
     · obtain ⟨y, rfl⟩ := hv
       have hdo : oper P nest tm hp (bxOf P G o) = .ok (panV y) q := by rw [hb]; exact g0
       obtain ⟨_, _, _, z, _⟩ := zvd (rest := is) (k := k') (cs := cs) hnest c hf ho (zfu hw _) hdo
       exact absurd z zud
     · rcases zh5 (β := R) (v := u) (d := d tm S.sz u fun tm => run S dfs (.ops all l :: k) tm q) (k := fun u => ze9 P nest q tm S dfs u) rfl with ⟨y, e, _⟩ | ⟨_, e⟩
       · exact absurd ⟨y, e⟩ hv
       · rw [← e]; exact g1
    | call f => rw [hb] at h'; exact h'
   | ask f =>
    rw [hw] at h'
    have h2 : IBx.rec (motive := fun _ => R) (fun f => f nest run S dfs k tm hp) (fBx (bxOf P G o) fun b => IBx.go fun nest run S dfs k tm hp => f tm (ze6 P nest (zvf P nest tm hp b) run S dfs (.ops all l :: k) tm d) (d tm S.sz undef fun tm => run S dfs (.ops all l :: k) tm hp)) = .ok v hp' := h'
    rw [ybd] at h2
    replace h2 : f tm (ze6 P nest (zvf P nest tm hp (bxOf P G o)) run S dfs (.ops all l :: k) tm d) (d tm S.sz undef fun tm => run S dfs (.ops all l :: k) tm hp) = .ok v hp' := h2
    rcases zxq hw hf.tm with ⟨e, hh⟩ | ⟨e, hh⟩ | hh
    · rw [hh] at h2; exact done e h2
    · rw [hh] at h2; exact skip e h2
    · rw [hh] at h2; cases h2
theorem ztv (hC : IsC P G C) (hrun : RunC P G C run) (c : CtxA P G hp ρ w) (hf : FS P ρ S dfs tm b a) (hk : TR ρ k k') (hcs : zeu S → cs ≠ []) (h : zub hp S.ro (fun hp => run S dfs k tm hp) = .ok v hp') :
 C S hp hp' ρ w v (b.atR a (.beginRound :: k')) cs := by
 unfold zub at h
 cases hro : S.ro with
 | none => rw [hro] at h; cases h
 | some l =>
  rw [hro] at h
  simp only at h
  split at h
  · rename_i p fn tm' sz ps as bd d hv
    rw [Hp.set_eq] at h
    obtain ⟨hok, r, hh, e1, e2, hpost⟩ := zh9 (st' := .busy) (pend' := p) c.sat hv
    have hr := run_beginRound (P := P) hh e1
    rw [← e2] at hpost
    have hst := stepR_beginRound (P := P) (b := b) (a := a) (k := k') (cs := cs) (w := w) (by rw [hf.ro, hro]; rfl) hr
    rw [← e2] at h
    exact zcs hC hrun c hpost hf hk hcs (.one hst) h
  · cases h
theorem zmp (hC : IsC P G C) (hrun : RunC P G C run) (c : CtxA P G hp ρ w) (hf : FS P ρ S dfs tm b a) (hk : TR ρ k k') (hcs : zeu S → cs ≠ []) {l : Nat} (h : (zin hp l fun p hp => zaf p (run S dfs k tm hp) fun c => run S dfs (.code c :: k) tm hp) = .ok v hp') :
 C S hp hp' ρ w v (b.atR a (.endRangeFunc (ρ.blk l) :: k')) cs := by
 have fin : ∀ st p fn tm' sz ps as bd d, hp.vis l = some (.loop st p fn tm' sz ps as bd d) → st ≠ .busy →
  zaf p (run S dfs k tm (hp.upd l (some (.loop .exhausted p fn tm' sz ps as bd d)))) (fun c => run S dfs (.code c :: k) tm (hp.upd l (some (.loop .exhausted p fn tm' sz ps as bd d)))) = .ok v hp' →
  C S hp hp' ρ w v (b.atR a (.endRangeFunc (ρ.blk l) :: k')) cs := by
  intro st p fn tm' sz ps as bd d hv hne h
  obtain ⟨hok, r, hh, e1, e2, hpost⟩ := zh9 (st' := .exhausted) (pend' := p) c.sat hv
  have hr := run_endLoop (P := P) hh (by rw [e1]; exact hne)
  rw [← e2] at hpost
  have hst := stepR_endRangeFunc (P := P) (b := b) (a := a) (k := k') (cs := cs) (w := w) hr
  rw [e2] at hst hpost
  cases p with
  | none => exact zcs hC hrun c hpost hf hk hcs (.one hst) h
  | some cc => exact zcs hC hrun c hpost hf (.cons _ _ _ _ (.code cc) hk) hcs (.one hst) h
 unfold zin at h
 split at h
 · rename_i p fn tm' sz ps as bd d hv
   rw [Hp.set_eq] at h
   exact fin _ _ _ _ _ _ _ _ _ hv (by intro e; cases e) h
 · rename_i p fn tm' sz ps as bd d hv
   rw [Hp.set_eq] at h
   exact fin _ _ _ _ _ _ _ _ _ hv (by intro e; cases e) h
 · cases h
end
end Go.Proofs.YtelanmknimapoaaGreatDoor.Sx
/- An executor of closed runs: frames, whole. -/
namespace Go.Proofs.YtelanmknimapoaaGreatDoor.Sx
open Go Go.RowKit
variable {P : Program} {G : Env}
theorem yav (a : Act) (m : List Deferred) (g : Operand) : ({ tmps := a.tmps, defers := m } : Act).eval g = a.eval g := by cases g <;> rfl
theorem zth {b : Frame} {a : Act} {k : List Item} {cs : List Frame} {w w₁ : World} {g : Operand} {ps : Array Tmp} {as bd : Code} {l : Nat} {mark : List Deferred}
 (he : (Instr.enterLoop b.fn a.tmps ps as bd b.roundOf).run P w = .ok (l, mark) w₁) :
 Doer P (b.atR a (.code (.rangeFunc g ps as bd) :: k)) cs w (b.atR { a with defers := mark ++ a.defers } (.inRangeFunc l :: k)) w₁ (ztn (a.eval g) #[.func (.yield l) #[] #[]]) := by
 have hev := Frame.eval_atR b { a with defers := mark ++ a.defers } (.inRangeFunc l :: k)
 simp only [Frame.atR] at hev
 have hs : (do let d ← resolve ({ tmps := a.tmps, defers := mark ++ a.defers } : Act).eval { callee := .value g, args := #[.const (.func (.yield l) #[] #[])], argTypes := #[] } 0; invoke d.target d.args : Sem Next) = ztn (a.eval g) #[.func (.yield l) #[] #[]] := by
  rw [← yav a (mark ++ a.defers) g]
  have hm : (#[Operand.const (Value.func (.yield l) #[] #[])]).map ({ tmps := a.tmps, defers := mark ++ a.defers } : Act).eval = #[Value.func (.yield l) #[] #[]] := by simp [Act.eval]
  show (Deferred.ofValue _ (Array.map _ #[Operand.const (Value.func (.yield l) #[] #[])]) >>= _) = _
  rw [hm]
  rfl
 refine ⟨fun nx v w' hr hv => ?_, fun f args w' hr => ?_, fun l' f tmps as' bd' w' hr => ?_⟩
 · apply step_lone_go
   rcases hv with rfl | ⟨rfl, rfl⟩ <;> simp [stepG, stepG.exec, Frame.atR, Sem.runT_eq, he, GStep.bare_after, stepG.apply, hev, hs, hr]
 · apply step_lone_go
   simp [stepG, stepG.exec, Frame.atR, Sem.runT_eq, he, GStep.bare_after, stepG.apply, hev, hs, hr]
 · apply step_lone_go
   simp [stepG, stepG.exec, Frame.atR, Sem.runT_eq, he, GStep.bare_after, stepG.apply, hev, hs, hr]
section
variable {C : Con} {nest run : Run} {S : St} {dfs : List Df} {k : List AItem} {tm : T Value} {hp hp' : Hp} {ρ : Rho} {w : World} {v : Value} {b : Frame} {a : Act} {k' : List Item} {cs : List Frame}
theorem zrf (c : CtxA P G hp ρ w) (hf : FS P ρ S dfs tm b a) {ps : Array Tmp} {as bd : Code} {d : Nat} (hd : ρ.ok d) :
 ∃ ρ1, Post P G hp (hp.new (.loop .ready none S.fn tm S.sz ps.toList as bd d)) ρ ρ1 w (w.alloc (.loop { state := .ready, pending := none, fn := b.fn, tmps := a.tmps, params := ps, assign := as, body := bd, defers := ρ.blk d })) ∧
  ρ1.ok hp.next ∧ ρ1.blk hp.next = w.heap.size := by
 have hfr := c.fresh hp.next (Nat.le_refl _)
 have le := ρ.add_le w.heap.size 0 0 0 hfr
 refine ⟨ρ.add hp.next w.heap.size 0 0 0, Post.newBlock c.sat hfr ?_, .inl rfl, if_pos rfl⟩
 refine ⟨le.ok d hd, a.tmps, ps, ?_, rfl, hf.tm.mono le⟩
 have : (ρ.add hp.next w.heap.size 0 0 0).blk hp.next = w.heap.size := if_pos rfl
 rw [this, World.more_at, le.blk d hd, hf.fn]
theorem zz4 (c : CtxA P G hp ρ w) (hf : FS P ρ S dfs tm b a) {ps : Array Tmp} {as bd : Code} {K : Nat → List Df → Hp → R} (h : zt7 hp S.fn S.sz tm ps.toList as bd S.ro dfs K = .ok v hp') :
 ∃ n dfs1 hp1 ρ1 w1 mark, K n dfs1 hp1 = .ok v hp' ∧ Post P G hp hp1 ρ ρ1 w w1 ∧ ρ1.ok n ∧ FS P ρ1 S dfs1 tm b { a with defers := mark ++ a.defers } ∧
  (Instr.enterLoop b.fn a.tmps ps as bd b.roundOf).run P w = .ok (ρ1.blk n, mark) w1 := by
 unfold zt7 at h
 cases hro : S.ro with
 | some l =>
  rw [hro] at h
  simp only at h
  split at h
  · rename_i st p fn tm' sz ps' as' bd' d hv
    rw [zec] at h
    obtain ⟨hok, hlt, hd, tmps, params, hh, hps, htm⟩ := c.sat.vis _ _ hv
    obtain ⟨ρ1, h1, h2, h3⟩ := zrf (ps := ps) (as := as) (bd := bd) c hf hd
    refine ⟨_, dfs, _, ρ1, _, [], h, h1, h2, hf.mono h1.ext, ?_⟩
    have hbro : b.roundOf = some (ρ.blk l) := by rw [hf.ro, hro]; rfl
    rw [hbro, run_enterLoop_inner hh, h3]
  · cases h
 | none =>
  rw [hro] at h
  simp only [zec] at h
  have hfr := c.fresh hp.next (Nat.le_refl _)
  have p0 : Post P G hp (hp.new (.dfs true)) ρ (ρ.add hp.next w.heap.size 0 0 0) w (World.more w (.deferred (some []))) := by
   refine Post.newBlock c.sat hfr ?_
   have : (ρ.add hp.next w.heap.size 0 0 0).blk hp.next = w.heap.size := if_pos rfl
   show (World.more w (.deferred (some []))).heap[(ρ.add hp.next w.heap.size 0 0 0).blk hp.next]? = _
   rw [this, World.more_at]
   rfl
  have hb0 : (ρ.add hp.next w.heap.size 0 0 0).blk hp.next = w.heap.size := if_pos rfl
  have ok0 : (ρ.add hp.next w.heap.size 0 0 0).ok hp.next := .inl rfl
  obtain ⟨ρ1, h1, h2, h3⟩ := zrf (ps := ps) (as := as) (bd := bd) (c.after p0) (hf.mono p0.ext) ok0
  have hf1 := (hf.mono p0.ext).mono h1.ext
  refine ⟨_, .mark hp.next :: dfs, _, ρ1, _, [{ target := .collected w.heap.size, args := #[] }], h, p0.trans h1, h2, ?_, ?_⟩
  · refine ⟨hf1.fn, hf1.kind, hf1.ro, hf1.rook, hf1.tm, ?_, hf1.res⟩
    have e : zho ρ1 hp.next = { target := .collected w.heap.size, args := #[] } := by
     unfold zho
     rw [h1.ext.blk _ ok0, hb0]
    show DsR ρ1 (.mark hp.next :: dfs) ({ target := .collected w.heap.size, args := #[] } :: a.defers)
    rw [← e]
    exact .cons _ _ _ _ (.mark _ (h1.ext.ok _ ok0)) hf1.defers
  · have hbro : b.roundOf = none := by rw [hf.ro, hro]; rfl
    rw [hbro, run_enterLoop_outer, h3, hb0]
    have hsz : (World.more w (.deferred (some []))).heap.size = w.heap.size + 1 := by simp [World.more]
    rw [hsz]
    rfl
theorem zsr (hC : IsC P G C) (hnest : zea P G nest) (hrun : RunC P G C run) (c : CtxA P G hp ρ w) (hf : FS P ρ S dfs tm b a) (hk : TR ρ k k') (hcs : zeu S → cs ≠ []) {f : Operand} {ps : Array Tmp} {as bd : Code} (hof : ze7 G f = true)
 (h : zfy P G nest run S dfs k tm hp f ps.toList as bd = .ok v hp') : C S hp hp' ρ w v (b.atR a (.code (.rangeFunc f ps as bd) :: k')) cs := by
 unfold zfy at h
 obtain ⟨n, dfs1, hp1, ρ1, w1, mark, g1, g2, g3, g4, g5⟩ := zz4 c hf h
 obtain ⟨u, q, g0, g1⟩ := zi6 g1
 have c1 := c.after g2
 have hv := (hf.mono g2.ext).eval c1.sat hof
 have hcr := zm6 (P := P) (G := G) (c1.ctx hp1.next) hv (.cons _ _ _ _ (.yield n g3) .nil)
 have D := zth (P := P) (k := k') (cs := cs) (g := f) g5
 obtain ⟨u', ρ2, w2, j1, j2, j3⟩ := zhc hnest c1 hcr D g0
 rw [finish_atR_inRangeFunc] at j3
 have e := j2.ext.blk n g3
 refine zcs hC hrun c (g2.trans j2) (g4.mono j2.ext) (t1 := .endRangeFunc (ρ1.blk n) :: k') ?_ hcs j3 g1
 rw [← e]
 exact .cons _ _ _ _ (.endRange n (j2.ext.ok n g3)) ((hk.mono g2.ext).mono j2.ext)
theorem zwx (hreg : zt1 P G) (hC : IsC P G C) (hnest : zea P G nest) (hrun : RunC P G C run) (c : CtxA P G hp ρ w) (hf : FS P ρ S dfs tm b a) (hk : TR ρ k k') (hcs : zeu S → cs ≠ []) (x : Code)
 (h : IBx.rec (motive := fun _ => R) (fun f => f nest run S dfs k tm hp) (ybc P G x) = .ok v hp') : C S hp hp' ρ w v (b.atR a (.code x :: k')) cs := by
 have p0 := Post.refl c.sat
 cases x with
 | skip => exact zcs hC hrun c p0 hf hk hcs (.one stepR_skip) h
 | label l => exact zcs hC hrun c p0 hf hk hcs (.one stepR_label) h
 | seq x y => exact zcs hC hrun c p0 hf (.cons _ _ _ _ (.code x) (.cons _ _ _ _ (.code y) hk)) hcs (.one stepR_seq) h
 | block id x => exact zcs hC hrun c p0 hf (.cons _ _ _ _ (.code x) (.cons _ _ _ _ (.inBlock id) hk)) hcs (.one stepR_block) h
 | loop x => exact zcs hC hrun c p0 hf (.cons _ _ _ _ (.code x) (.cons _ _ _ _ (.inLoop x) hk)) hcs (.one stepR_loop) h
 | scope x => exact zcs hC hrun c p0 hf (.cons _ _ _ _ (.code x) (.cons _ _ _ _ (.inScope x) hk)) hcs (.one zo4) h
 | refuse why => cases h
 | ret =>
  replace h : zik P nest hp tm S dfs (some .ret) = .ok v hp' := h
  exact hC.leaf <| zij hnest c hf hcs h (fun hb => stepR_ret hb) (fun l u w' c rest hb e hr => by subst e; exact stepR_round_ret hb (hf.kindN (by rw [hb]; intro e; cases e)) hr)
 | exit id =>
  replace h : zly P nest run S dfs k tm hp id = .ok v hp' := h
  unfold zly at h
  obtain ⟨h1, h2⟩ := zsf (id := id) hk
  cases hx : zed id k with
  | some k1 =>
   rw [hx] at h
   obtain ⟨k1', e1, e2⟩ := h2 k1 hx
   exact zcs hC hrun c p0 hf e2 hcs (.one (stepR_exit e1)) h
  | none =>
   rw [hx] at h
   replace h : zaf S.ro .no (fun _ => zik P nest hp tm S dfs (some (.exit id))) = .ok v hp' := h
   obtain ⟨l, hl, h⟩ := zaq h
   refine hC.leaf <| zij hnest c hf hcs h (fun hb => ?_) (fun l u w' c rest hb e hr => by subst e; exact stepR_round_exit hb (hf.kindN (by rw [hb]; intro e; cases e)) (h1 hx) hr)
   rw [hf.ro, hl] at hb
   cases hb
 | goto l =>
  replace h : zlx run S dfs k tm hp l = .ok v hp' := h
  unfold zlx at h
  obtain ⟨k1, hx, h⟩ := zaq h
  obtain ⟨k1', e1, e2⟩ := (zse (l := l) hk).2 k1 hx
  exact zcs hC hrun c p0 hf e2 hcs (.one (stepR_goto e1)) h
 | cond x y z =>
  have h' : IBx.rec (motive := fun _ => R) (fun f => f nest run S dfs k tm hp) (cond (ze7 G x) (OBx.rec (motive := fun _ => IBx) (fun f =>
   .go fun _ run S dfs k tm hp => f tm fun v => zhl v .no fun t => pick t (run S dfs (.code y :: k) tm hp) (run S dfs (.code z :: k) tm hp)) (opBx x)) noBx) = .ok v hp' := h
  cases hx : ze7 G x with
  | false => rw [hx] at h'; cases h'
  | true =>
   obtain ⟨f, e1, e2⟩ := zbs x
   rw [hx, cond_true, e1] at h'
   replace h' : f tm (fun v => zhl v .no fun t => pick t (run S dfs (.code y :: k) tm hp) (run S dfs (.code z :: k) tm hp)) = .ok v hp' := h'
   rw [e2] at h'
   obtain ⟨t, ht, h'⟩ := zi7 h'
   have hv := hf.eval c.sat hx
   rw [ht] at hv
   have hv' : a.eval x = .bool t := by generalize a.eval x = z at hv; cases hv; rfl
   have hst := stepR_cond (P := P) (b := b) (k := k') (cs := cs) (w := w) (x := y) (y := z) hv'
   cases t with
   | true => exact zcs hC hrun c p0 hf (.cons _ _ _ _ (.code y) hk) hcs (.one hst) h'
   | false => exact zcs hC hrun c p0 hf (.cons _ _ _ _ (.code z) hk) hcs (.one hst) h'
 | rangeFunc f ps as bd =>
  have h' : IBx.rec (motive := fun _ => R) (fun f => f nest run S dfs k tm hp) (cond (ze7 G f) (.go fun nest run S dfs k tm hp => zfy P G nest run S dfs k tm hp f ps.toList as bd) noBx) = .ok v hp' := h
  cases hx : ze7 G f with
  | false => rw [hx] at h'; cases h'
  | true => rw [hx] at h'; exact zsr hC hnest hrun c hf hk hcs hx h'
 | region id ops draw =>
  cases draw with
  | true =>
   have h' : IBx.rec (motive := fun _ => R) (fun f => f nest run S dfs k tm hp) (match zk3 P G ops.toList with
    | some l => .go fun nest run S dfs k tm hp => zkf (oper P nest) S.sz l [] [] tm hp fun tm hp => run S dfs k tm hp
    | none => noBx) = .ok v hp' := h
   cases hm : zk3 P G ops.toList with
   | none => rw [hm] at h'; cases h'
   | some l =>
    rw [hm] at h'
    obtain ⟨tm1, hp1, ρ1, w1, a1, g1, g2, g3, g4⟩ := hreg nest ops l S dfs _ tm hp v hp' hnest hm h' ρ w b a cs id k' c hf
    exact zcs hC hrun c g2 g3 (hk.mono g2.ext) hcs g4 g1
  | false =>
   have h' : IBx.rec (motive := fun _ => R) (fun f => f nest run S dfs k tm hp) (List.rec (motive := fun _ => IBx) (.go fun _ run S dfs k tm hp => run S dfs k tm hp) (fun x l _ => .go fun _ run S dfs k tm hp => run S dfs (.ops ops (x :: l) :: k) tm hp) ops.toList) = .ok v hp' := h
   have hr := zva ops
   have hst := stepR_region (P := P) (b := b) (a := a) (k := k') (cs := cs) (w := w) (ops := ops) (id := id)
   cases hl : ops.toList with
   | nil =>
    rw [hl] at h' hr
    have h0 : List.range ops.size = [] := by
     cases hz : List.range ops.size with
     | nil => rfl
     | cons i l => rw [hz] at hr; cases hr
    rw [h0] at hst
    exact zcs hC hrun c p0 hf hk hcs (.head hst (.one stepR_region_end)) h'
   | cons x l =>
    rw [hl] at h' hr
    exact zcs hC hrun c p0 hf (.cons _ _ _ _ (.ops ops (x :: l) _ hr) hk) hcs (.one hst) h'
end
theorem step_ok (hreg : zt1 P G) {C : Con} (hC : IsC P G C) {nest run : Run} (hnest : zea P G nest) (hrun : RunC P G C run) : RunC P G C (Sx.step P G nest run) := by
 intro S dfs todo tm hp v hp' h ρ w b a todo' cs c hf ht hcs
 cases ht with
 | nil => exact hC.leaf <| zij hnest c hf hcs h (fun hb => stepR_end hb) (fun l u w' c rest hb e hr => by subst e; exact stepR_round_end hb (hf.kindN (by rw [hb]; intro e; cases e)) hr)
 | cons x y k k' hx hk =>
  replace h : IBx.rec (motive := fun _ => R) (fun f => f nest run S dfs k tm hp) (zv7 P G x) = .ok v hp' := h
  have p0 := Post.refl c.sat
  cases hx with
  | code x => exact zwx hreg hC hnest hrun c hf hk hcs x h
  | inBlock id => exact zcs hC hrun c p0 hf hk hcs (.one stepR_inBlock) h
  | inLoop x => exact zcs hC hrun c p0 hf (.cons _ _ _ _ (.code x) (.cons _ _ _ _ (.inLoop x) hk)) hcs (.one stepR_inLoop) h
  | inScope x => exact zcs hC hrun c p0 hf hk hcs (.one zlw) h
  | ops all l is hl => exact zyq hC hnest hrun c hf hk hcs hl h
  | beginRound => exact ztv hC hrun c hf hk hcs h
  | endRange l hl => exact zmp hC hrun c hf hk hcs h
theorem zor (hreg : zt1 P G) : ∀ n, zea P G (xrun P G n)
 | 0 => by intro S dfs todo tm hp v hp' h; cases h
 | n + 1 => step_ok hreg zv3 (zor hreg n) (zor hreg n)
theorem ybo (hreg : zt1 P G) {fuel : Nat} {f : FuncId} {args : List Value} {hp hp' : Hp} {v : Value} (h : xfun P G fuel f args hp = .ok v hp') {ρ : Rho} {w : World} {args' : List Value} (c : CtxA P G hp ρ w) (hl : LR ρ args args') :
 Calls P f ⟨args'⟩ w fun e w' => ∃ v' ρ', e = .returned v' ∧ VR ρ' v v' ∧ Post P G hp hp' ρ ρ' w w' := by
 intro cs
 unfold xfun at h
 cases hb : zbp P f with
 | none => rw [hb] at h; cases h
 | some body nt rs =>
  rw [hb] at h
  unfold zbp at hb
  split at hb
  · rename_i fn hf
    split at hb
    · rename_i cc hbd
      rw [zar] at hb
      cases hb
      obtain ⟨h2, hnp⟩ := zh8 (show zf9 (zc6 (xrun P G fuel) f args hp body fn.ntmps fn.results.toList) = .ok v hp' from h)
      unfold zc6 at h2
      rw [zar, T.putList_eq] at h2
      let b0 : Frame := { fn := f, tmps := #[], todo := [], defers := [], mode := .run, kind := .normal }
      let a0 : Act := ⟨(⟨args'⟩ : Array Value) ++ Array.replicate (fn.ntmps - (⟨args'⟩ : Array Value).size) undef, []⟩
      have hfs : FS P ρ ⟨f, pick (Nat.ble args.length fn.ntmps) fn.ntmps args.length, fn.results.toList, none, false⟩ [] (T.setList args .leaf 0) b0 a0 :=
       ⟨rfl, rfl, rfl, fun l hl => (by cases hl), zif hl fn.ntmps, .nil, fun _ => ⟨fn, hf, rfl⟩⟩
      obtain ⟨v', ρ', w', k1, k2, k3⟩ := (zor hreg fuel _ _ _ _ _ _ _ h2 ρ w b0 a0 [.code body] cs c hfs (.cons _ _ _ _ (.code body) .nil) (fun e => by rcases e with e | e; exact absurd rfl e; cases e)).val hnp
      obtain ⟨fr2, j1, j0, j2⟩ := k3
      have he : Frame.enter P f ⟨args'⟩ .normal = b0.atR a0 [.code body] := by
       unfold Frame.enter
       simp only [hf, Option.map_some, Option.getD_some, Option.bind_some, hbd]
       rfl
      refine ⟨.returned v', w', fr2, ⟨v', ρ', rfl, k1, k2⟩, ?_, j0, j2⟩
      rw [he]; exact j1
    · cases hb
  · cases hb
theorem zzg {r : R} {v : Value} (h : gives r v = true) : ∃ hp, r = .ok v hp ∧ hp.wr = [] := by
 cases r with
 | no => cases h
 | ok u hp =>
  obtain ⟨h1, h2⟩ := za5 (show andB (eq2 u v) (isNone hp.wr) = true from h)
  refine ⟨hp, by rw [yg2 h1], ?_⟩
  cases hw : hp.wr with
  | nil => rfl
  | cons x l => rw [hw] at h2; cases h2
theorem zqi (hreg : zt1 P G) {fuel : Nat} {f : FuncId} {args : List Value} {hp : Hp} {v : Value} (hlim : hp.lim = hp.next) (h : gives (xfun P G fuel f args hp) v = true) (ha : spL1 args = true) (hv : sp2 v = true) {ρ : Rho} {w : World} (c : CtxA P G hp ρ w) :
 Calls P f ⟨args.map (in1 ρ.sym)⟩ w fun e w' => e = .returned (in2 ρ.sym v) ∧ Below w.heap.size w w' := by
 obtain ⟨hp', h1, hwr⟩ := zzg h
 have hl : LR ρ args (args.map (in1 ρ.sym)) := zo5 ha
 refine (ybo hreg h1 c hl).mono ?_
 rintro e w' ⟨v', ρ', rfl, hv', k2⟩
 have := ye1 hv hv'
 rw [k2.ext.sym] at this
 rw [this]
 refine ⟨rfl, k2.os, k2.tape, k2.output, k2.size, fun x hx => k2.frame x hx fun n hn h => ?_⟩
 rw [hlim, hwr] at h
 rcases h with h | h
 · omega
 · cases h
end Go.Proofs.YtelanmknimapoaaGreatDoor.Sx
