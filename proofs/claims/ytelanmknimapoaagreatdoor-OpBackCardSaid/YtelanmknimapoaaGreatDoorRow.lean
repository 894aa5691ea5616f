/- Slices of structs, whatever the number of an element's cells: how they read, own rows of them, and append. -/
import Derived.Test.YtelanmknimapoaaGreatDoorProg
import Derived.WalkKit
import Derived.WalkSpells
import Derived.WalkLawsBesides
import Derived.Lib.Hide
import Derived.Below
import Derived.Laws.OwnMore
import Derived.Deep.AppendLies
import Derived.Deep.Draws
import Derived.Maps.AppendAt
import Derived.RegionTactic
import Derived.OwnWalk
import Derived.Deep.Slices
import Derived.Deep.Fields
import Derived.ChangeSame
namespace Go.Proofs.YtelanmknimapoaaGreatDoor
open Go.RowKit
theorem zhx (a : Addr) (n : Nat) : (a.add n).block = a.block := by unfold Addr.add; split <;> rfl
theorem zty (a : Addr) (i j : Nat) : (a.add i).add j = a.add (i + j) := by
 unfold Addr.add
 by_cases hi : i = 0 <;> by_cases hj : j = 0 <;> simp [hi, hj, Nat.add_assoc]
def Reads (w : World) (B size : Nat) (A : Option Addr) (n : Nat) (xs : List Value) : Prop :=
 xs.length = n * size ∧ (0 < n → ∃ ad, A = some ad ∧ ad.block < B ∧ ∀ j u, xs[j]? = some u → w.cell? (ad.add j) = some u)
section
variable {w w' : World} {B B' size n : Nat} {A : Option Addr} {xs : List Value}
theorem Reads.at_ {k : Nat} (h : Reads w B 1 A n xs) (hk : k < n) : ∃ ad u, A = some ad ∧ ad.block < B ∧ xs[k]? = some u ∧ w.cell? (ad.add k) = some u := by
 obtain ⟨ad, e, hb, hc⟩ := h.2 (by omega)
 have hl : k < xs.length := by have := h.1; omega
 exact ⟨ad, xs[k], e, hb, List.getElem?_eq_getElem hl, hc k _ (List.getElem?_eq_getElem hl)⟩
theorem Reads.keep (h : Reads w B size A n xs) (hk : ∀ p : Addr, p.block < B → w'.cell? p = w.cell? p) : Reads w' B size A n xs :=
 ⟨h.1, fun hn => by
  obtain ⟨ad, e, hb, hc⟩ := h.2 hn
  exact ⟨ad, e, hb, fun j u hu => (hk _ (by rw [zhx]; exact hb)).trans (hc j u hu)⟩⟩
theorem Reads.more (h : Reads w B size A n xs) (hB : B ≤ B') : Reads w B' size A n xs :=
 ⟨h.1, fun hn => by
  obtain ⟨ad, e, hb, hc⟩ := h.2 hn
  exact ⟨ad, e, by omega, hc⟩⟩
theorem Reads.below (h : Reads w B size A n xs) (hb : Below B w w') : Reads w' B size A n xs := h.keep fun _ hp => hb.cell hp
theorem Reads.drew (h : Reads w B size A n xs) : Reads w.drew B size A n xs := h
theorem Reads.drewN (h : Reads w B size A n xs) (k : Nat) : Reads (w.drewN k) B size A n xs := h
theorem Reads.alloc (h : Reads w B size A n xs) (hB : B ≤ w.heap.size) (o : Obj) : Reads (w.alloc o) B size A n xs := h.keep fun p hp => World.cell?_alloc_lt w o p (by omega)
theorem Reads.setCell (h : Reads w B size A n xs) {p : Addr} (hB : B ≤ p.block) (u : Value) : Reads (w.setCell p u) B size A n xs :=
 h.keep fun q hq => World.cell?_setCell_other w p q u (fun e => by subst e; omega)
theorem Reads.grown (h : Reads w B size A n xs) {row : Option Nat} (hg : w.grownBy w' row) (hB : B ≤ w.heap.size) (hr : ∀ g, row = some g → B ≤ g) : Reads w' B size A n xs :=
 h.keep fun p hp => World.cell?_of_block (hg.block p.block (by omega) (fun e => by have := hr _ e.symm; omega))
theorem Reads.cut (h : Reads w B size A n xs) {k cap : Nat} (hk : k ≤ n) (hc : n ≤ cap) :
 Reads w B size (if cap = k then A else A.map (·.add (k * size))) (n - k) (xs.drop (k * size)) := by
 refine ⟨by rw [List.length_drop, h.1, Nat.sub_mul], fun hn => ?_⟩
 obtain ⟨ad, rfl, hb, hcell⟩ := h.2 (by omega)
 rw [if_neg (by omega)]
 refine ⟨ad.add (k * size), rfl, by rw [zhx]; exact hb, fun j u hu => ?_⟩
 rw [zty]
 exact hcell _ u (by rw [← hu, List.getElem?_drop])
end
section
variable {P : Program} (w : World)
theorem zgx (base : Nat) (t ty e : TypeId) (i : TypeInfo) (size : Nat) (ht : P.underlying t = some (.slice e)) (hi : P.info? e = some i)
 (v : Value) (n : Nat) (xs : List Value) (hown : w.ownsRow base e size v n xs) (c : Nat) : (Builtin.append_ #[t, t] ty #[v, .slice none 0 c]).run P w = .ok v w := by
 rcases hown.2 with ⟨rfl, rfl⟩ | ⟨g, cap, cur, rfl, _, _, hnc, _⟩
 · simp [Builtin.append_, run_underlying ht, sizeOf, typeInfo, hi, Builtin.lenOf, Builtin.firstCells]
 · simp [Builtin.append_, run_underlying ht, sizeOf, typeInfo, hi, Builtin.lenOf, Builtin.firstCells, hnc, storeCells]
theorem zfb (base : Nat) (t ty e : TypeId) (i : TypeInfo) (z : Value) (size bytes : Nat) (ht : P.underlying t = some (.slice e)) (hi : P.info? e = some i) (hz : i.zero = some z)
 (hsize : i.size = size) (hby : i.bytes = bytes) (hzs : z.cells.size = size) (hsz : 0 < size)
 (v : Value) (n : Nat) (xs : List Value) (hown : w.ownsRow base e size v n xs)
 (B : Nat) (A : Option Addr) (m c : Nat) (news : List Value) (hr : Reads w B size A m news) (h1 : ∀ u ∈ news, u.oneCell' = true)
 (h63 : n + m ≤ maxLen) (hbytes : (n + m) * bytes ≤ 140737488355328) (hbase : base ≤ w.heap.size) :
 ∃ v' w', (Builtin.append_ #[t, t] ty #[v, .slice A m c]).run P w = .ok v' w' ∧ w'.ownsRow base e size v' (n + m) (xs ++ news) ∧ w.grownBy w' v.ownBlock ∧
  (v'.ownBlock = v.ownBlock ∨ v'.ownBlock = some w.heap.size) := by
 rcases A with _ | ad
 · have hm : m = 0 := by
    rcases Nat.eq_zero_or_pos m with h0 | h0
    · exact h0
    · obtain ⟨ad, h, _⟩ := hr.2 h0
      cases h
   subst hm
   have hn : news = [] := List.eq_nil_of_length_eq_zero (by simpa using hr.1)
   subst hn
   exact ⟨v, w, zgx w base t ty e i size ht hi v n xs hown c, by simpa using hown, World.grownBy.refl w _, .inl rfl⟩
 · have hcells : ∀ j u, news[j]? = some u → w.cell? (ad.add j) = some u := by
    intro j u hu
    rcases Nat.eq_zero_or_pos m with h0 | h0
    · subst h0
      have hn : news = [] := List.eq_nil_of_length_eq_zero (by simpa using hr.1)
      subst hn
      simp at hu
    · obtain ⟨ad', h, _, hc⟩ := hr.2 h0
      injection h with h
      subst h
      exact hc j u hu
   obtain ⟨v', w', hrun, h2, h3, _, h5⟩ := run_append_own_at (P := P) w base t ty e i z size bytes ht hi hz hsize hby hzs hsz v n xs hown ad m c news hr.1 hcells h1 h63 hbytes hbase
   exact ⟨v', w', hrun, h2, h3, h5⟩
theorem zls {o : Oper} {a : Act} {K : Act → World → Prop} {Q : Exit → Act → World → Prop} (s x : Operand) (t : TypeId)
 (ho : o.op = .call { callee := .builtin .append, args := #[s, x], argTypes := #[t, t] })
 (base : Nat) (e : TypeId) (i : TypeInfo) (z : Value) (size bytes : Nat) (ht : P.underlying t = some (.slice e)) (hi : P.info? e = some i) (hz : i.zero = some z)
 (hsize : i.size = size) (hby : i.bytes = bytes) (hzs : z.cells.size = size) (hsz : 0 < size)
 (v : Value) (n : Nat) (xs : List Value) (hs : a.eval s = v) (hown : w.ownsRow base e size v n xs)
 (B : Nat) (A : Option Addr) (m c : Nat) (news : List Value) (hx : a.eval x = .slice A m c) (hr : Reads w B size A m news) (h1 : ∀ u ∈ news, u.oneCell' = true)
 (h63 : n + m ≤ maxLen) (hbytes : (n + m) * bytes ≤ 140737488355328) (hbase : base ≤ w.heap.size)
 (h : ∀ v' w', w'.ownsRow base e size v' (n + m) (xs ++ news) → w.grownBy w' v.ownBlock → (v'.ownBlock = v.ownBlock ∨ v'.ownBlock = some w.heap.size) → K (a.put o.dst v') w') : o.wp P a w K Q := by
 obtain ⟨v', w', hrun, h2, h3, h4⟩ := zfb (P := P) w base t o.type e i z size bytes ht hi hz hsize hby hzs hsz v n xs hown B A m c news hr h1 h63 hbytes hbase
 unfold Oper.wp execOp
 simp only [ho, resolve, invoke, builtin, Sem.run_bind, Sem.run_pure, Result.andThen_ok, List.map_toArray, List.map_cons, List.map_nil, hs, hx, hrun]
 exact h v' w' h2 h3 h4
theorem zgt {ops : Array Oper} {rest : List Oper} {o : Oper} {a : Act} {Q : Exit → Act → World → Prop} (hgd : o.guard = none) (s x : Operand) (t : TypeId)
 (ho : o.op = .call { callee := .builtin .append, args := #[s, x], argTypes := #[t, t] })
 (base : Nat) (e : TypeId) (i : TypeInfo) (z : Value) (size bytes : Nat) (ht : P.underlying t = some (.slice e)) (hi : P.info? e = some i) (hz : i.zero = some z)
 (hsize : i.size = size) (hby : i.bytes = bytes) (hzs : z.cells.size = size) (hsz : 0 < size)
 (v : Value) (n : Nat) (xs : List Value) (hs : a.eval s = v) (hown : w.ownsRow base e size v n xs)
 (B : Nat) (A : Option Addr) (m c : Nat) (news : List Value) (hx : a.eval x = .slice A m c) (hr : Reads w B size A m news) (h1 : ∀ u ∈ news, u.oneCell' = true)
 (h63 : n + m ≤ maxLen) (hbytes : (n + m) * bytes ≤ 140737488355328) (hbase : base ≤ w.heap.size)
 (h : ∀ v' w', w'.ownsRow base e size v' (n + m) (xs ++ news) → w.grownBy w' v.ownBlock → (v'.ownBlock = v.ownBlock ∨ v'.ownBlock = some w.heap.size) → wpList P ops Q rest (a.put o.dst v') w') : wpList P ops Q (o :: rest) a w :=
 wpList_plain hgd fun _ hK => zls w s x t ho base e i z size bytes ht hi hz hsize hby hzs hsz v n xs hs hown B A m c news hx hr h1 h63 hbytes hbase fun v' w' h2 h3 h4 => hK _ _ (h v' w' h2 h3 h4)
end
/-! Elements of a type in memory -/
section
variable {α : Type} {c : α → List Value} {n : Nat}
theorem zrq (hn : ∀ x, (c x).length = n) (L : List α) : (L.flatMap c).length = L.length * n := by
 induction L with
 | nil => simp
 | cons x L ih => rw [List.flatMap_cons, List.length_append, ih, hn]; simp [Nat.add_mul]; omega
theorem zwf (hn : ∀ x, (c x).length = n) : ∀ (L : List α) (k : Nat) (h : k < L.length) (j : Nat), j < n → (L.flatMap c)[k * n + j]? = (c L[k])[j]? := by
 intro L
 induction L with
 | nil => intro k h; cases h
 | cons x L ih =>
  intro k h j hj
  rw [List.flatMap_cons]
  cases k with
  | zero => rw [Nat.zero_mul, Nat.zero_add, List.getElem?_append_left (by rw [hn]; exact hj)]; rfl
  | succ k =>
   rw [List.getElem?_append_right (by rw [hn, Nat.add_mul]; omega), hn]
   rw [show (k + 1) * n + j - n = k * n + j by rw [Nat.add_mul]; omega]
   exact ih k (by simpa using h) j hj
def RowOf (c : α → List Value) (n : Nat) (w : World) (b off : Nat) (L : List α) : Prop :=
 b < w.heap.size ∧ ∀ k (h : k < L.length) (j : Nat) (v : Value), (c L[k])[j]? = some v → w.cell? ⟨b, off + k * n + j, none⟩ = some v
theorem RowOf.later {w w' : World} {b off : Nat} {L : List α} (h : RowOf c n w b off L) (hB : Below w.heap.size w w') : RowOf c n w' b off L :=
 ⟨Nat.lt_of_lt_of_le h.1 hB.size, fun k hk j v hv => by rw [hB.cell (p := ⟨b, off + k * n + j, none⟩) h.1]; exact h.2 k hk j v hv⟩
theorem RowOf.drop {w : World} {b off : Nat} {L : List α} (h : RowOf c n w b off L) (i : Nat) : RowOf c n w b (off + i * n) (L.drop i) :=
 ⟨h.1, fun k hk j v hv => by
  rw [List.length_drop] at hk
  rw [List.getElem_drop] at hv
  have := h.2 (i + k) (by omega) j v hv
  rw [show off + i * n + k * n + j = off + (i + k) * n + j by rw [Nat.add_mul]; omega]; exact this⟩
def IsOf (c : α → List Value) (n : Nat) (w : World) (a : Option Addr) (len : Nat) (L : List α) : Prop := L.length = len ∧ (0 < len → ∃ b off, a = some ⟨b, off, none⟩ ∧ RowOf c n w b off L)
theorem IsOf.later {w w' : World} {a : Option Addr} {len : Nat} {L : List α} (h : IsOf c n w a len L) (hB : Below w.heap.size w w') : IsOf c n w' a len L :=
 ⟨h.1, fun h0 => by obtain ⟨b, off, hb, hr⟩ := h.2 h0; exact ⟨b, off, hb, hr.later hB⟩⟩
theorem IsOf.nil (w : World) (a : Option Addr) : IsOf c n w a 0 [] := ⟨rfl, fun h => absurd h (by omega)⟩
theorem cell_lt {w : World} {a : Addr} {v : Value} (h : w.cell? a = some v) : a.spot = none := by
 unfold World.cell? at h
 cases hs : a.spot with
 | none => rfl
 | some s => rw [hs] at h; split at h <;> simp at h
theorem yat (b off j : Nat) : (⟨b, off, none⟩ : Addr).add j = ⟨b, off + j, none⟩ := by
 unfold Addr.add; split
 · rename_i h; subst h; rfl
 · rfl
theorem IsOf.reads (hn : ∀ x, (c x).length = n) {w : World} {a : Option Addr} {len : Nat} {L : List α} (h : IsOf c n w a len L) : Reads w w.heap.size n a len (L.flatMap c) := by
 refine ⟨by rw [zrq hn, h.1], fun h0 => ?_⟩
 obtain ⟨b, off, rfl, hb, hr⟩ := h.2 h0
 refine ⟨_, rfl, hb, fun j u hu => ?_⟩
 have hj : j < L.length * n := by rw [← zrq hn L]; exact (List.getElem?_eq_some_iff.1 hu).1
 have hn0 : 0 < n := by
  rcases Nat.eq_zero_or_pos n with h | h
  · subst h; simp at hj
  · exact h
 have hk : j / n < L.length := Nat.div_lt_of_lt_mul (by rw [Nat.mul_comm]; exact hj)
 have e : j = j / n * n + j % n := by rw [Nat.mul_comm]; exact (Nat.div_add_mod j n).symm
 have hm : j % n < n := Nat.mod_lt _ hn0
 rw [e, zwf hn L _ hk _ hm] at hu
 rw [yat, e, ← Nat.add_assoc]
 exact hr _ hk _ _ hu
def OwnOf (e : TypeId) (c : α → List Value) (n : Nat) (B : Nat) (w : World) (v : Value) (L : List α) : Prop := w.ownsRow B e n v L.length (L.flatMap c)
variable {e : TypeId} {B : Nat} {w : World} {v : Value} {L : List α}
theorem OwnOf.nil (e : TypeId) (c : α → List Value) (n : Nat) (B : Nat) (w : World) : OwnOf e c n B w (.slice none 0 0) [] := World.ownsRow_nil _ _ _ _
theorem OwnOf.alloc (h : OwnOf e c n B w v L) (o : Obj) : OwnOf e c n B (w.alloc o) v L := World.ownsRow.alloc h o
theorem OwnOf.drew (h : OwnOf e c n B w v L) : OwnOf e c n B w.drew v L := h
theorem OwnOf.drewN (h : OwnOf e c n B w v L) (k : Nat) : OwnOf e c n B (w.drewN k) v L := h
theorem OwnOf.later {w1 : World} (h : OwnOf e c n B w v L) (hb : Below w.heap.size w w1) : OwnOf e c n B w1 v L := by
 obtain ⟨h1, h2⟩ := h
 refine ⟨h1, ?_⟩
 rcases h2 with h2 | ⟨g, cap, cur, rfl, hg, hh, hrest⟩
 · exact .inl h2
 · refine .inr ⟨g, cap, cur, rfl, hg, ?_, hrest⟩
   rw [hb.block g (Array.getElem?_eq_some_iff.1 hh).1]; exact hh
theorem OwnOf.isOf (hn : ∀ x, (c x).length = n) (h : OwnOf e c n B w v L) : ∃ a cap, v = .slice a L.length cap ∧ IsOf c n w a L.length L := by
 have h' := h
 rcases h.2 with ⟨rfl, h0⟩ | ⟨g, cap, cur, rfl, _, hh, hc, _⟩
 · exact ⟨none, 0, by rw [h0], rfl, fun h => by omega⟩
 · refine ⟨_, cap, rfl, rfl, fun _ => ⟨g, 0, rfl, (Array.getElem?_eq_some_iff.1 hh).1, fun k hk j u hu => ?_⟩⟩
   have hj : j < n := by rw [← hn L[k]]; exact (List.getElem?_eq_some_iff.1 hu).1
   have hlt : k * n + j < L.length * n := by
    have : (k + 1) * n ≤ L.length * n := Nat.mul_le_mul_right _ hk
    rw [Nat.add_mul] at this; omega
   rw [Nat.zero_add]
   have := World.ownsRow.cellAt h' (k * n + j) hlt
   rw [this, zwf hn L k hk j hj]; exact hu
theorem OwnOf.one (hn : ∀ x, (c x).length = n) (w : World) (hB : B ≤ w.heap.size) (x : α) : OwnOf e c n B (w.alloc (.cells (c x).toArray e)) (.slice (some ⟨w.heap.size, 0, none⟩) 1 1) [x] :=
 ⟨by simp [hn], .inr ⟨w.heap.size, 1, (c x).toArray, rfl, hB, heap_alloc_new w _, Nat.le_refl _, by decide, by simp [hn], by simp only [List.length_cons, List.length_nil, Nat.zero_add, Nat.one_mul, List.flatMap_cons, List.flatMap_nil, List.append_nil]; exact List.take_of_length_le (by rw [hn]; exact Nat.le_refl _)⟩⟩
theorem zzc (w : World) (cs : Array Value) (t : TypeId) (x : α) (h : cs = (c x).toArray) : IsOf c n (w.alloc (.cells cs t)) (some ⟨w.heap.size, 0, none⟩) 1 [x] := by
 subst h
 refine ⟨rfl, fun _ => ⟨w.heap.size, 0, rfl, by simp, fun k hk j v hv => ?_⟩⟩
 obtain rfl : k = 0 := by simp at hk; exact hk
 simp at hv
 simp [hv]
end
section
variable {P : Program} {α : Type} {c : α → List Value} {n : Nat} {e : TypeId}
theorem zm7 {ops : Array Oper} {rest : List Oper} {o : Oper} {a : Act} {w : World} {Q : Exit → Act → World → Prop} (hgd : o.guard = none) (s x : Operand) (t : TypeId)
 (ho : o.op = .call { callee := .builtin .append, args := #[s, x], argTypes := #[t, t] }) (ht : P.underlying t = some (.slice e)) (z : Value) (bytes : Nat)
 (hinfo : (P.info? e).map (fun i => (i.zero, i.size, i.bytes)) = some (some z, n, bytes)) (hzs : z.cells.size = n) (hn0 : 0 < n) (hbl : 0 < bytes)
 (hn : ∀ x, (c x).length = n) (h1 : ∀ x, ∀ u ∈ c x, u.oneCell' = true)
 (B : Nat) (v : Value) (L : List α) (hs : a.eval s = v) (hown : OwnOf e c n B w v L) (A : Option Addr) (m cp : Nat) (M : List α) (hx : a.eval x = .slice A m cp) (hM : IsOf c n w A m M)
 (hl : (L.length + m) * bytes ≤ 140737488355328) (hB : B ≤ w.heap.size)
 (h : ∀ v' w', OwnOf e c n B w' v' (L ++ M) → Below B w w' → wpList P ops Q rest (a.put o.dst v') w') : wpList P ops Q (o :: rest) a w := by
 obtain ⟨i0, hi, hz0, hz1, hz2⟩ := info_parts hinfo
 refine zgt w hgd s x t ho B e i0 z n bytes ht hi hz0 hz1 hz2 hzs hn0 v L.length (L.flatMap c) hs hown w.heap.size A m cp (M.flatMap c) hx (hM.reads hn) ?_ ?_ ?_ hB ?_
 · intro u hu
   obtain ⟨y, _, hy⟩ := List.mem_flatMap.1 hu
   exact h1 y u hy
 · have : L.length + m ≤ (L.length + m) * bytes := Nat.le_mul_of_pos_right _ hbl
   unfold maxLen; omega
 · exact hl
 · intro v' w' ho' hg _
   refine h v' w' ?_ ((Below.refl _ _).grown hg hB (fun k hk => (World.ownsRow.lt hown k hk).1))
   unfold OwnOf
   rw [List.length_append, List.flatMap_append, hM.1]; exact ho'
end
/-! A slice of structs that came in -/
section
open Go.ChangeShapes Go.WideShapes Go.Deep
variable {H : Type} {enc : TypeId × Value → H} {P : Program} {w : World} {base : Nat} {spare : Nat → Bool} {held : Bool} {α : Type} {c : α → List Value} {n : Nat}
end
end Go.Proofs.YtelanmknimapoaaGreatDoor
