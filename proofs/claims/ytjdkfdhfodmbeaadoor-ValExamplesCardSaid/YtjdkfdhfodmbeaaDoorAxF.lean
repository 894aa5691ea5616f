/- An executor of closed runs: the memory's steps beside those of a world. -/
import Derived.Test.YtjdkfdhfodmbeaaDoorAxE
import Derived.Laws.World
namespace Go.Proofs.YtjdkfdhfodmbeaaDoor.Ax
open Go
variable {P : Program} {G : Nat}

/-- All but one block is as it was. -/
structure Only (k : Nat) (w w' : World) : Prop where
  size : w'.heap.size = w.heap.size
  other : ∀ j, j ≠ k → w'.heap[j]? = w.heap[j]?
  os : w'.os = w.os
  tape : w'.tape = w.tape
  output : w'.output = w.output
theorem Only.refl (k : Nat) (w : World) : Only k w w := ⟨rfl, fun _ _ => rfl, rfl, rfl, rfl⟩
theorem Only.trans {k : Nat} {a b c : World} (h : Only k a b) (g : Only k b c) : Only k a c :=
  ⟨g.size.trans h.size, fun j hj => (g.other j hj).trans (h.other j hj), g.os.trans h.os, g.tape.trans h.tape, g.output.trans h.output⟩

def Rho.add (ρ : Rho) (n blk sh esz clen : Nat) : Rho :=
  { ok := fun m => m = n ∨ ρ.ok m, blk := fun m => if m = n then blk else ρ.blk m, sh := fun m => if m = n then sh else ρ.sh m,
    esz := fun m => if m = n then esz else ρ.esz m, clen := fun m => if m = n then clen else ρ.clen m }
theorem Rho.add_le (ρ : Rho) {n : Nat} (blk sh esz clen : Nat) (h : ¬ ρ.ok n) : ρ.Le (ρ.add n blk sh esz clen) := by
  have : ∀ m, ρ.ok m → m ≠ n := fun m hm e => h (e ▸ hm)
  exact ⟨fun m hm => .inr hm, fun m hm => if_neg (this m hm), fun m hm => if_neg (this m hm), fun m hm => if_neg (this m hm), fun m hm => if_neg (this m hm)⟩

theorem cell?_of_heap {w : World} {b o : Nat} {c : Array Value} {e : TypeId} {fz : Nat × Nat} (h : w.heap[b]? = some (.cells c e fz)) : w.cell? ⟨b, o, none⟩ = c[o]? := by
  simp [World.cell?, h]
theorem cell?_same {w w' : World} {b o : Nat} (h : w'.heap[b]? = w.heap[b]?) : w'.cell? ⟨b, o, none⟩ = w.cell? ⟨b, o, none⟩ := by
  simp [World.cell?, h]

theorem ER.mono {ρ ρ' : Rho} {es es' : List MapEntry} (h : ER ρ es es') (le : ρ.Le ρ') : ER ρ' es es' :=
  ⟨h.1, fun i e hi => let ⟨e', h1, h2, h3, h4⟩ := h.2 i e hi; ⟨e', h1, h2.mono le, h3.mono le, h4⟩⟩
theorem tmR.mono {ρ ρ' : Rho} {tm : T Value} {sz : Nat} {tmps : Array Value} (h : tmR ρ tm sz tmps) (le : ρ.Le ρ') : tmR ρ' tm sz tmps :=
  ⟨h.1, fun t => (h.2 t).mono le⟩

theorem objSat.mono {ρ ρ' : Rho} {w w' : World} {n : Nat} {o : AObj} (h : objSat P ρ w n o) (hn : ρ.ok n) (le : ρ.Le ρ') (hw : w'.heap[ρ.blk n]? = w.heap[ρ.blk n]?) :
    objSat P ρ' w' n o := by
  cases o with
  | cells t m e =>
    obtain ⟨c, fz, h1, h2, h3, h4, h5, h6⟩ := h
    refine ⟨c, fz, by rw [le.blk n hn, hw]; exact h1, by rw [le.clen n hn]; exact h2, by rw [le.sh n hn]; exact h3, h4, by rw [le.esz n hn]; exact h5, fun i v hi => ?_⟩
    obtain ⟨h7, v', h8, h9⟩ := h6 i v hi
    exact ⟨h7, v', by rw [le.sh n hn]; exact h8, h9.mono le⟩
  | ro t =>
    intro i v hi
    obtain ⟨h7, v', h8, h9⟩ := h i v hi
    exact ⟨h7, v', by rw [le.blk n hn, le.sh n hn, cell?_same hw]; exact h8, h9.mono le⟩
  | map es clock =>
    obtain ⟨es', h1, h2⟩ := h
    exact ⟨es', by rw [le.blk n hn, hw]; exact h1, h2.mono le⟩
  | iter s pos => exact ⟨by rw [le.blk n hn, hw]; exact h.1, by rw [le.sh n hn]; exact h.2⟩
  | loop st pend fn tm sz ps a b d =>
    obtain ⟨hd, tmps, params, h1, h2, h3⟩ := h
    exact ⟨le.ok d hd, tmps, params, by rw [le.blk n hn, hw, le.blk d hd]; exact h1, h2, h3.mono le⟩
  | dfs o => show w'.heap[ρ'.blk n]? = _; rw [le.blk n hn, hw]; exact h

theorem Hp.no_new (hp : Hp) (o : AObj) (n : Nat) : (hp.new o).no n = hp.no n := rfl
theorem Hp.no_upd (hp : Hp) (b : Nat) (o : Option AObj) (n : Nat) : (hp.upd b o).no n = hp.no n := rfl
theorem Hp.no_next {hp : Hp} (h : hp.lim ≤ hp.next) : hp.no hp.next = false := by
  have : Nat.ble hp.lim hp.next = true := by rw [Nat.ble_eq]; exact h
  simp [Hp.no, this]
theorem Hp.vis_new {hp : Hp} (h : hp.lim ≤ hp.next) (o : AObj) (n : Nat) : (hp.new o).vis n = if n = hp.next then some o else hp.vis n := by
  rw [Hp.vis_eq, Hp.vis_eq, Hp.no_new]
  show (if hp.no n = true then none else (hp.h.set hp.next (some o)).get n) = _
  rw [T.get_set]
  by_cases e : n = hp.next
  · subst e; rw [Hp.no_next h]; simp
  · simp [e]
theorem Hp.vis_upd (hp : Hp) (b : Nat) (o : Option AObj) (n : Nat) : (hp.upd b o).vis n = if hp.no n = true then none else if n = b then o else hp.h.get n := by
  rw [Hp.vis_eq, Hp.no_upd]
  show (if hp.no n = true then none else (hp.h.set b o).get n) = _
  rw [T.get_set]
theorem Hp.vis_some {hp : Hp} {n : Nat} {o : AObj} (h : hp.vis n = some o) : hp.no n = false ∧ hp.h.get n = some o := by
  rw [Hp.vis_eq] at h
  cases hh : hp.no n with
  | true => rw [hh] at h; cases h
  | false => rw [hh] at h; exact ⟨rfl, h⟩

/-- Something else at a name that may be seen. -/
theorem Post.upd {hp : Hp} {ρ : Rho} {w w' : World} {b : Nat} {o0 o1 : AObj} (hs : Sat P G hp ρ w) (hv : hp.vis b = some o0)
    (hw : Only (ρ.blk b) w w') (ho : objSat P ρ w' b o1) : Post P G hp (hp.upd b (some o1)) ρ ρ w w' := by
  obtain ⟨hok, hlt, _⟩ := hs.vis b o0 hv
  obtain ⟨hno, hget⟩ := Hp.vis_some hv
  have hb : b < hp.next := hs.lt b o0 hget
  have hvis : ∀ n o, (hp.upd b (some o1)).vis n = some o → (n = b ∧ o = o1) ∨ (n ≠ b ∧ hp.vis n = some o) := by
    intro n o hn
    rw [Hp.vis_upd] at hn
    by_cases hh : hp.no n = true
    · rw [if_pos hh] at hn; cases hn
    · rw [if_neg hh] at hn
      by_cases e : n = b
      · rw [if_pos e] at hn; cases hn; exact .inl ⟨e, rfl⟩
      · rw [if_neg e] at hn; exact .inr ⟨e, by rw [Hp.vis_eq, if_neg hh]; exact hn⟩
  have hvis' : ∀ n o, (hp.upd b (some o1)).vis n = some o → ∃ o', hp.vis n = some o' := fun n o hn => by
    rcases hvis n o hn with ⟨rfl, rfl⟩ | ⟨_, h⟩
    · exact ⟨_, hv⟩
    · exact ⟨_, h⟩
  refine ⟨⟨fun n o hn => ?_, fun n m o o' hn hm e => ?_, fun n o hn => ?_, hs.lim, hs.glob⟩, .refl ρ, fun n h => .inl h, fun n h1 h2 => absurd h2 (Nat.not_lt.2 h1), fun n h1 h2 => absurd h2 (Nat.not_lt.2 h1), Nat.le_refl _, rfl, rfl,
    fun n hn => ?_, fun n h1 h2 => ?_, fun n hn => mem_addL.2 (.inl hn), fun n hn => ?_, Nat.le_of_eq hw.size.symm, fun x hx hall => ?_, fun n h1 h2 => absurd h2 (Nat.not_lt.2 h1), hw.os, hw.tape, hw.output⟩
  · rcases hvis n o hn with ⟨rfl, rfl⟩ | ⟨hne, h⟩
    · exact ⟨hok, by rw [hw.size]; exact hlt, ho⟩
    · obtain ⟨h1, h2, h3⟩ := hs.vis n o h
      exact ⟨h1, by rw [hw.size]; exact h2, h3.mono h1 (.refl ρ) (hw.other _ fun e => hne (hs.inj n b _ _ h hv e))⟩
  · obtain ⟨x, hx⟩ := hvis' n o hn
    obtain ⟨y, hy⟩ := hvis' m o' hm
    exact hs.inj n m _ _ hx hy e
  · have hn' : (hp.h.set b (some o1)).get n = some o := hn
    rw [T.get_set] at hn'
    by_cases e : n = b
    · subst e; exact hb
    · rw [if_neg e] at hn'; exact hs.lt n o hn'
  · show (hp.h.set b (some o1)).get n = _
    rw [T.get_set, if_neg]
    rintro rfl; rw [hno] at hn; cases hn
  · show (hp.h.set b (some o1)).get n = _
    rw [T.get_set, if_neg]
    rintro rfl
    exact h2 (mem_addL.2 (.inr ⟨rfl, h1⟩))
  · rcases mem_addL.1 hn with h | ⟨rfl, h⟩
    · exact .inl h
    · exact .inr ⟨h, _, hv⟩
  · refine hw.other x fun e => ?_
    refine hall b hok ?_ e.symm
    by_cases h : b < hp.lim
    · exact .inr (mem_addL.2 (.inr ⟨rfl, h⟩))
    · exact .inl ⟨Nat.le_of_not_lt h, hb⟩

/-- A name that may be seen is given up. -/
theorem Post.drop {hp : Hp} {ρ : Rho} {w : World} {b : Nat} {o0 : AObj} (hs : Sat P G hp ρ w) (hv : hp.vis b = some o0) : Post P G hp (hp.upd b none) ρ ρ w w := by
  obtain ⟨hok, hlt, _⟩ := hs.vis b o0 hv
  obtain ⟨hno, hget⟩ := Hp.vis_some hv
  have hvis : ∀ n o, (hp.upd b none).vis n = some o → n ≠ b ∧ hp.vis n = some o := by
    intro n o hn
    rw [Hp.vis_upd] at hn
    by_cases hh : hp.no n = true
    · rw [if_pos hh] at hn; cases hn
    · rw [if_neg hh] at hn
      by_cases e : n = b
      · rw [if_pos e] at hn; cases hn
      · rw [if_neg e] at hn; exact ⟨e, by rw [Hp.vis_eq, if_neg hh]; exact hn⟩
  refine ⟨⟨fun n o hn => hs.vis n o (hvis n o hn).2, fun n m o o' hn hm e => hs.inj n m o o' (hvis n o hn).2 (hvis m o' hm).2 e, fun n o hn => ?_, hs.lim, hs.glob⟩, .refl ρ, fun n h => .inl h, fun n h1 h2 => absurd h2 (Nat.not_lt.2 h1), fun n h1 h2 => absurd h2 (Nat.not_lt.2 h1), Nat.le_refl _, rfl, rfl,
    fun n hn => ?_, fun n h1 h2 => ?_, fun n hn => mem_addL.2 (.inl hn), fun n hn => ?_, Nat.le_refl _, fun x hx hall => rfl, fun n h1 h2 => absurd h2 (Nat.not_lt.2 h1), rfl, rfl, rfl⟩
  · have hn' : (hp.h.set b none).get n = some o := hn
    rw [T.get_set] at hn'
    by_cases e : n = b
    · rw [if_pos e] at hn'; cases hn'
    · rw [if_neg e] at hn'; exact hs.lt n o hn'
  · show (hp.h.set b none).get n = _
    rw [T.get_set, if_neg]
    rintro rfl; rw [hno] at hn; cases hn
  · show (hp.h.set b none).get n = _
    rw [T.get_set, if_neg]
    rintro rfl
    exact h2 (mem_addL.2 (.inr ⟨rfl, h1⟩))
  · rcases mem_addL.1 hn with h | ⟨rfl, h⟩
    · exact .inl h
    · exact .inr ⟨h, _, hv⟩

def World.more (w : World) (o : Obj) : World := { w with heap := w.heap.push o }
theorem World.more_at (w : World) (o : Obj) : (World.more w o).heap[w.heap.size]? = some o := by
  show (w.heap.push o)[w.heap.size]? = _
  exact Array.getElem?_push_size
theorem World.more_old (w : World) (o : Obj) (k : Nat) (h : k < w.heap.size) : (World.more w o).heap[k]? = w.heap[k]? := by
  simp only [World.more]
  rw [Array.getElem?_push, if_neg (by omega)]

/-- A new name: for a new block, or for the block of a name that has been given up (b). -/
theorem Post.newAt {hp : Hp} {ρ : Rho} {w w' : World} {blk sh esz clen : Nat} {o : AObj} (hs : Sat P G hp ρ w) (hf : ¬ ρ.ok hp.next) (hsz : w.heap.size ≤ w'.heap.size) (hblk : blk < w'.heap.size)
    (hold : ∀ k, k < w.heap.size → k ≠ blk → w'.heap[k]? = w.heap[k]?) (hos : w'.os = w.os) (htape : w'.tape = w.tape) (hout : w'.output = w.output)
    (hvis : ∀ n o, hp.vis n = some o → ρ.blk n ≠ blk)
    (hwhere : w.heap.size ≤ blk ∨ ∃ m, ρ.ok m ∧ ((hp.lim ≤ m ∧ m < hp.next) ∨ m ∈ hp.wr) ∧ blk = ρ.blk m)
    (ho : objSat P (ρ.add hp.next blk sh esz clen) w' hp.next o) :
    Post P G hp (hp.new o) ρ (ρ.add hp.next blk sh esz clen) w w' := by
  have le := ρ.add_le blk sh esz clen hf
  have hne : ∀ n, ρ.ok n → n ≠ hp.next := fun n hn e => hf (e ▸ hn)
  have hbn : (ρ.add hp.next blk sh esz clen).blk hp.next = blk := if_pos rfl
  have hget : ∀ n, n ≠ hp.next → (hp.new o).h.get n = hp.h.get n := fun n hn => by
    show (hp.h.set hp.next (some o)).get n = _
    rw [T.get_set, if_neg hn]
  refine ⟨⟨fun n o' hn => ?_, fun n m o1 o2 hn hm e => ?_, fun n o' hn => ?_, Nat.le_succ_of_le hs.lim, fun g hg => ?_⟩, le, fun n hn => ?_, fun n h1 h2 => ?_, fun n h1 h2 => ?_, Nat.le_succ _, rfl, rfl,
    fun n hn => ?_, fun n h1 _ => ?_, fun _ h => h, fun _ h => .inl h, hsz, fun x hx hall => ?_, fun n h1 h2 => ?_, hos, htape, hout⟩
  · rw [Hp.vis_new hs.lim] at hn
    by_cases e : n = hp.next
    · subst e; rw [if_pos rfl] at hn; cases hn
      exact ⟨.inl rfl, by rw [hbn]; exact hblk, ho⟩
    · rw [if_neg e] at hn
      obtain ⟨h1, h2, h3⟩ := hs.vis n o' hn
      exact ⟨.inr h1, by rw [le.blk n h1]; omega, h3.mono h1 le (hold _ h2 (hvis n o' hn))⟩
  · rw [Hp.vis_new hs.lim] at hn hm
    by_cases e1 : n = hp.next <;> by_cases e2 : m = hp.next
    · rw [e1, e2]
    · rw [if_neg e2] at hm
      obtain ⟨h1, _, _⟩ := hs.vis m o2 hm
      rw [e1, hbn, le.blk m h1] at e
      exact absurd e.symm (hvis m o2 hm)
    · rw [if_neg e1] at hn
      obtain ⟨h1, _, _⟩ := hs.vis n o1 hn
      rw [e2, hbn, le.blk n h1] at e
      exact absurd e (hvis n o1 hn)
    · rw [if_neg e1] at hn; rw [if_neg e2] at hm
      obtain ⟨h1, _, _⟩ := hs.vis n o1 hn
      obtain ⟨h2, _, _⟩ := hs.vis m o2 hm
      rw [le.blk n h1, le.blk m h2] at e
      exact hs.inj n m o1 o2 hn hm e
  · by_cases e : n = hp.next
    · subst e; exact Nat.lt_succ_self _
    · rw [hget n e] at hn; exact Nat.lt_succ_of_lt (hs.lt n o' hn)
  · obtain ⟨h1, h2, h3⟩ := hs.glob g hg
    exact ⟨.inr h1, by rw [le.blk g h1]; exact h2, by rw [le.sh g h1]; exact h3⟩
  · rcases hn with rfl | hn
    · exact .inr ⟨Nat.le_refl _, Nat.lt_succ_self _⟩
    · exact .inl hn
  · have : n = hp.next := by have : n < hp.next + 1 := h2; omega
    exact .inl this
  · have : n = hp.next := by have : n < hp.next + 1 := h2; omega
    rw [this]; exact hf
  · refine hget n fun e => ?_
    rw [e, Hp.no_next hs.lim] at hn; cases hn
  · exact hget n (by have := hs.lim; omega)
  · refine hold x hx fun e => ?_
    rcases hwhere with h | ⟨m, h1, h2, h3⟩
    · omega
    · exact hall m h1 h2 (by rw [← h3, e])
  · have : n = hp.next := by have : n < hp.next + 1 := h2; omega
    rw [this, hbn]; exact hwhere

/-- A new block. -/
theorem Post.newBlock {hp : Hp} {ρ : Rho} {w : World} {esz clen : Nat} {o : AObj} {c : Obj} (hs : Sat P G hp ρ w) (hf : ¬ ρ.ok hp.next)
    (ho : objSat P (ρ.add hp.next w.heap.size 0 esz clen) (World.more w c) hp.next o) :
    Post P G hp (hp.new o) ρ (ρ.add hp.next w.heap.size 0 esz clen) w (World.more w c) :=
  Post.newAt hs hf (by simp [World.more]) (by simp [World.more]) (fun k hk _ => World.more_old w c k hk) rfl rfl rfl
    (fun n o hn => Nat.ne_of_lt (hs.vis n o hn).2.1) (.inl (Nat.le_refl _)) ho

/-! Reading and writing cells. -/
theorem World.setCell_only (w : World) (b o : Nat) (v : Value) : Only b w (w.setCell ⟨b, o, none⟩ v) := by
  refine ⟨by simp [World.setCell], fun j hj => ?_, rfl, rfl, rfl⟩
  simp only [World.setCell, Array.getElem?_modify]
  rw [if_neg (Ne.symm hj)]
theorem World.setCell_at {w : World} {b : Nat} {c : Array Value} {e : TypeId} {fz : Nat × Nat} (h : w.heap[b]? = some (.cells c e fz)) (o : Nat) (v : Value) :
    (w.setCell ⟨b, o, none⟩ v).heap[b]? = some (.cells (c.setIfInBounds o v) e fz) := by
  simp [World.setCell, Array.getElem?_modify, h]

theorem run_store1 {w : World} {b o : Nat} {c : Array Value} {e : TypeId} {fz : Nat × Nat} (h : w.heap[b]? = some (.cells c e fz)) (ho : o < c.size) (hf : ¬ (fz.1 ≤ o ∧ o < fz.2)) {v : Value} (hv : oneC v = true) :
    (store ⟨b, o, none⟩ v).run P w = .ok () (w.setCell ⟨b, o, none⟩ v) := by
  have h1 : w.cell? ⟨b, o, none⟩ = some c[o] := by rw [cell?_of_heap h]; simp [ho]
  have h2 : w.frozen? ⟨b, o, none⟩ = false := by
    obtain ⟨x, y⟩ := fz
    simp only [World.frozen?, h]
    simp only [not_and, Nat.not_lt] at hf
    simp only [Bool.and_eq_false_iff, decide_eq_false_iff_not, Nat.not_le, Nat.not_lt]
    by_cases hx : x ≤ o
    · exact .inr (hf hx)
    · exact .inl (by omega)
  cases v <;> first | (simp [store, Sem.run, h1, h2]; done) | cases hv

theorem run_storeCells {b o : Nat} {e : TypeId} {fz : Nat × Nat} : ∀ (vs : List Value) (i : Nat) (c : Array Value) (w : World), w.heap[b]? = some (.cells c e fz) → o + i + vs.length ≤ c.size →
    (∀ j, j < c.size → ¬ (fz.1 ≤ j ∧ j < fz.2)) → (∀ v ∈ vs, oneC v = true) →
    ∃ c' w', (storeCells ⟨b, o, none⟩ vs i).run P w = .ok () w' ∧ w'.heap[b]? = some (.cells c' e fz) ∧ c'.size = c.size ∧
      (∀ j, c'[j]? = if o + i ≤ j ∧ j < o + i + vs.length then vs[j - (o + i)]? else c[j]?) ∧ Only b w w'
  | [], i, c, w, h, _, _, _ => ⟨c, w, rfl, h, rfl, fun j => by rw [if_neg (by simp only [List.length_nil]; omega)], .refl _ _⟩
  | v :: vs, i, c, w, h, hl, hf, h1 => by
    have hl' : o + i + (vs.length + 1) ≤ c.size := hl
    have hs := run_store1 (P := P) h (o := o + i) (by omega) (hf (o + i) (by omega)) (h1 v (List.mem_cons_self ..))
    have h2 := World.setCell_at h (o + i) v
    obtain ⟨c', w', g1, g2, g3, g4, g5⟩ := run_storeCells (o := o) vs (i + 1) (c.setIfInBounds (o + i) v) (w.setCell ⟨b, o + i, none⟩ v) h2 (by simp; omega) (by simpa using hf) (fun u hu => h1 u (List.mem_cons_of_mem _ hu))
    refine ⟨c', w', ?_, g2, by simpa using g3, fun j => ?_, (World.setCell_only w b (o + i) v).trans g5⟩
    · unfold storeCells
      rw [Sem.run_bind, Addr.add_lit, hs]
      exact g1
    · rw [g4 j]
      by_cases e1 : j = o + i
      · subst e1
        rw [if_neg (by omega), if_pos (by simp)]
        simp [show o + i < c.size by omega]
      · by_cases e2 : o + i ≤ j ∧ j < o + i + (vs.length + 1)
        · rw [if_pos (by omega), if_pos (by simpa using e2)]
          obtain ⟨d, rfl⟩ : ∃ d, j = o + (i + 1) + d := ⟨j - (o + (i + 1)), by omega⟩
          rw [show o + (i + 1) + d - (o + (i + 1)) = d by omega, show o + (i + 1) + d - (o + i) = d + 1 by omega]; simp
        · rw [if_neg (by omega), if_neg (by simpa using e2)]
          simp [Ne.symm e1]

/-- What may be read at a name. -/
theorem read_cells {hp : Hp} {ρ : Rho} {w : World} (hs : Sat P G hp ρ w) {b : Nat} {t : T Value} (hv : (∃ n e, hp.vis b = some (.cells t n e)) ∨ hp.vis b = some (.ro t)) :
    ρ.ok b ∧ ∀ i v, t.get i = some v → oneC v = true ∧ ∃ v', w.cell? ⟨ρ.blk b, ρ.sh b + i, none⟩ = some v' ∧ VR ρ v v' := by
  rcases hv with ⟨n, e, hv⟩ | hv
  · obtain ⟨h1, _, c, fz, h3, _, _, _, _, h4⟩ := hs.vis b _ hv
    exact ⟨h1, fun i v hi => let ⟨h5, v', h6, h7⟩ := h4 i v hi; ⟨h5, v', by rw [cell?_of_heap h3]; exact h6, h7⟩⟩
  · obtain ⟨h1, _, h3⟩ := hs.vis b _ hv
    exact ⟨h1, h3⟩

/-- A run of cells. -/
theorem read_list {ρ : Rho} {w : World} {blk sh : Nat} {t : T Value} (h : ∀ i v, t.get i = some v → oneC v = true ∧ ∃ v', w.cell? ⟨blk, sh + i, none⟩ = some v' ∧ VR ρ v v') {o n : Nat} {l : List Value} (hr : readCells t o n = some l) :
    ∃ l', LR ρ l l' ∧ l'.length = n ∧ (∀ v ∈ l, oneC v = true) ∧ (loadCells ⟨blk, sh + o, none⟩ n).run P w = .ok l'.toArray w := by
  obtain ⟨hlen, hget⟩ := readCells_spec t n o l hr
  have hv : ∀ i (hi : i < l.length), t.get (o + i) = some l[i] := fun i hi => by rw [hget i (by omega)]; exact List.getElem?_eq_getElem hi
  let f : Nat → Value := fun i => (w.cell? ⟨blk, sh + (o + i), none⟩).getD undef
  have hf : ∀ i (hi : i < l.length), w.cell? ⟨blk, sh + (o + i), none⟩ = some (f i) ∧ VR ρ l[i] (f i) := fun i hi => by
    obtain ⟨_, v', h2, h3⟩ := h _ _ (hv i hi)
    exact ⟨by show _ = some ((w.cell? _).getD undef); rw [h2]; rfl, by show VR ρ _ ((w.cell? _).getD undef); rw [h2]; exact h3⟩
  refine ⟨(List.range n).map f, .of_get (by simp [hlen]) fun i v hi => ?_, by simp, fun v hm => ?_, ?_⟩
  · have hi' : i < l.length := (List.getElem?_eq_some_iff.1 hi).1
    have he : l[i] = v := (List.getElem?_eq_some_iff.1 hi).2
    exact ⟨f i, by simp [List.getElem?_range (show i < n by omega)], he ▸ (hf i hi').2⟩
  · obtain ⟨i, hi, rfl⟩ := List.mem_iff_getElem.1 hm
    exact (h _ _ (hv i hi)).1
  · rw [run_loadCells w ⟨blk, sh + o, none⟩ n f fun j hj => by
      rw [Addr.add_lit, Nat.add_assoc]; exact (hf j (by omega)).1]

/-- Cells are written at a name. -/
theorem write_cells {hp : Hp} {ρ : Rho} {w : World} (hs : Sat P G hp ρ w) {b n o : Nat} {e : TypeId} {t : T Value} (hv : hp.vis b = some (.cells t n e)) {l l' : List Value} (hl : LR ρ l l')
    (h1 : ∀ v ∈ l, oneC v = true) (hn : o + l.length ≤ n) :
    ∃ w', (storeCells ⟨ρ.blk b, ρ.sh b + o, none⟩ l').run P w = .ok () w' ∧ Post P G hp (hp.upd b (some (.cells (T.setList l t o) n e))) ρ ρ w w' := by
  obtain ⟨hok, hlt, c, fz, g1, g2, g3, g4, g5, g6⟩ := hs.vis b _ hv
  have hlen := hl.length
  have hone : ∀ v ∈ l', oneC v = true := fun v hm => by
    obtain ⟨i, hi, rfl⟩ := List.mem_iff_getElem.1 hm
    have hi' : i < l.length := by omega
    obtain ⟨v', h2, h3⟩ := hl.get_some (List.getElem?_eq_getElem hi')
    rw [List.getElem?_eq_getElem hi] at h2
    cases h2
    rw [h3.one]
    exact h1 _ (List.getElem_mem hi')
  obtain ⟨c', w', r1, r2, r3, r4, r5⟩ := run_storeCells (P := P) (o := ρ.sh b + o) l' 0 c w g1 (by omega) g4 hone
  refine ⟨w', r1, Post.upd hs hv r5 ⟨c', fz, r2, by rw [r3]; exact g2, by rw [r3]; exact g3, by rw [r3]; exact g4, g5, fun i v hi => ?_⟩⟩
  rw [T.get_setList] at hi
  rw [r4]
  by_cases hin : o ≤ i ∧ i < o + l.length
  · rw [if_pos hin] at hi
    rw [if_pos (by omega)]
    obtain ⟨v', h2, h3⟩ := hl.get_some hi
    refine ⟨h1 v (List.mem_of_getElem? hi), v', ?_, h3⟩
    rw [show ρ.sh b + i - (ρ.sh b + o + 0) = i - o by omega]; exact h2
  · rw [if_neg hin] at hi
    rw [if_neg (by omega)]
    exact g6 i v hi

/-- A new row of cells. -/
theorem new_cells {hp : Hp} {ρ : Rho} {w : World} (hs : Sat P G hp ρ w) (hf : ¬ ρ.ok hp.next) (t : T Value) (m : Nat) (e : TypeId) (c : Array Value) (hm : m ≤ c.size)
    (hc : ∀ i v, t.get i = some v → oneC v = true ∧ ∃ v', c[i]? = some v' ∧ VR ρ v v') :
    ∃ ρ', Post P G hp (hp.new (.cells t m e)) ρ ρ' w (World.more w (.cells c e)) ∧ ρ'.blk hp.next = w.heap.size ∧ ρ'.sh hp.next = 0 ∧ ρ'.ok hp.next ∧ ρ'.clen hp.next = c.size ∧ ρ'.esz hp.next = (size? P e).getD 0 := by
  have le := ρ.add_le w.heap.size 0 ((size? P e).getD 0) c.size hf
  refine ⟨ρ.add hp.next w.heap.size 0 ((size? P e).getD 0) c.size, Post.newBlock hs hf ?_, if_pos rfl, if_pos rfl, .inl rfl, if_pos rfl, if_pos rfl⟩
  have e1 : (ρ.add hp.next w.heap.size 0 ((size? P e).getD 0) c.size).sh hp.next = 0 := if_pos rfl
  have e2 : (ρ.add hp.next w.heap.size 0 ((size? P e).getD 0) c.size).blk hp.next = w.heap.size := if_pos rfl
  refine ⟨c, (0, 0), by rw [e2]; exact World.more_at _ _, (if_pos rfl).symm, by rw [e1]; omega, fun i _ h => absurd h.2 (Nat.not_lt_zero _), if_pos rfl, fun i v hi => ?_⟩
  obtain ⟨h1, v', h2, h3⟩ := hc i v hi
  exact ⟨h1, v', by rw [e1, Nat.zero_add]; exact h2, h3.mono le⟩
end Go.Proofs.YtjdkfdhfodmbeaaDoor.Ax
