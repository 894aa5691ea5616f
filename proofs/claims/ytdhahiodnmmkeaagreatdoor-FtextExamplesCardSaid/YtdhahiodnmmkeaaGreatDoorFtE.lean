/- ftext.convert: its contract. -/
import Derived.Test.YtdhahiodnmmkeaaGreatDoorMgf
import Derived.Test.YtdhahiodnmmkeaaGreatDoorValZn
import Derived.Test.YtdhahiodnmmkeaaGreatDoorDecRnd
namespace Go.Proofs.YtdhahiodnmmkeaaGreatDoor.Va
open Go Go.RowKit GM
set_option linter.unusedVariables false
set_option linter.unusedSimpArgs false
def zcn (v : V3) : List Value := [.int .u8 (v.1 : Int), .int .i64 v.2.1, .string v.2.2]
theorem zav (v : V3) : (zcn v).length = 3 := rfl
abbrev IsV (w : World) (a : Option Addr) (n : Nat) (L : List V3) : Prop := IsOf zcn 3 w a n L
def A2 (w : World) (p : Nat) (u v : Value) : Prop := w.heap[p]? = some (.cells #[u, v] 82)
theorem A2.lt {w : World} {p : Nat} {u v : Value} (h : A2 w p u v) : p < w.heap.size := (Array.getElem?_eq_some_iff.1 h).1
theorem A2.cells {w : World} {p : Nat} {u v : Value} (h : A2 w p u v) : w.cell? ⟨p, 0, none⟩ = some u ∧ w.cell? ⟨p, 1, none⟩ = some v ∧ w.frozen? ⟨p, 0, none⟩ = false ∧ w.frozen? ⟨p, 1, none⟩ = false := by
 unfold A2 at h
 refine ⟨?_, ?_, ?_, ?_⟩ <;> simp [World.cell?, World.frozen?, h]
theorem A2.later {w w' : World} {p : Nat} {u v : Value} (h : A2 w p u v) (hB : Below w.heap.size w w') : A2 w' p u v := (hB.block p h.lt).trans h
theorem A2.grown {w w' : World} {p : Nat} {u v : Value} {row : Option Nat} (h : A2 w p u v) (hg : w.grownBy w' row) (hr : row ≠ some p) : A2 w' p u v := (hg.block p h.lt (fun e => hr e.symm)).trans h
theorem A2.set0 {w : World} {p : Nat} {u v : Value} (h : A2 w p u v) (x : Value) : A2 (w.setCell ⟨p, 0, none⟩ x) p x v := by
 unfold A2 at *
 simp [World.setCell, Array.getElem?_modify, h]
theorem A2.set1 {w : World} {p : Nat} {u v : Value} (h : A2 w p u v) (x : Value) : A2 (w.setCell ⟨p, 1, none⟩ x) p u x := by
 unfold A2 at *
 simp [World.setCell, Array.getElem?_modify, h]
theorem B3.other {w : World} {p q k : Nat} {n : Int} {s : ByteArray} (h : B3 w p k n s) (hne : p ≠ q) (i : Nat) (x : Value) : B3 (w.setCell ⟨q, i, none⟩ x) p k n s := by
 unfold B3 at *
 rw [Below.heap_setCell _ _ _ _ hne]; exact h
theorem B3.grownB {w w' : World} {p k : Nat} {n : Int} {s : ByteArray} {row : Option Nat} (h : B3 w p k n s) (hg : w.grownBy w' row) (hr : row ≠ some p) : B3 w' p k n s := (hg.block p h.lt (fun e => hr e.symm)).trans h
theorem OwnOf.apart {α β : Type} {c : α → List Value} {c' : β → List Value} {n n' : Nat} {e e' : TypeId} {B B' : Nat} {w w1 : World} {v v' : Value} {L : List α} {L' : List β} (h : OwnOf e c n B w v L) (k : OwnOf e' c' n' B' w v' L') (hne : e ≠ e') (hg : w.grownBy w1 v'.ownBlock) : OwnOf e c n B w1 v L := by
 refine World.ownsRow.kept h hg ?_
 rcases h.2 with ⟨rfl, _⟩ | ⟨g, cap, cur, rfl, _, hh, _⟩
 · exact .inl rfl
 · right
   intro he
   rcases k.2 with ⟨rfl, _⟩ | ⟨g', cap', cur', rfl, _, hh', _⟩
   · cases he
   · simp only [Value.ownBlock, Option.some.injEq] at he
     subst he
     rw [hh] at hh'
     injection hh' with hh'
     injection hh' with _ h2 _
     exact hne h2
structure Cv (w wr : World) (u v : Value) (T : List ByteArray) (W : List Int) : Prop where
 a : A2 wr w.heap.size u v
 f : B3 wr (w.heap.size + 1) 0 0 ⟨#[]⟩
 t : OwnT (w.heap.size + 2) wr u T
 n : OwnW (w.heap.size + 2) wr v W
 b : Below w.heap.size w wr
theorem Cv.later {w wr w1 : World} {u v : Value} {T : List ByteArray} {W : List Int} (h : Cv w wr u v T W) (hB : Below wr.heap.size wr w1) : Cv w w1 u v T W :=
 ⟨h.a.later hB, h.f.later hB, OwnOf.later h.t hB, OwnOf.later h.n hB, zab h.b hB⟩
theorem Cv.putT {w wr w1 : World} {u v u' : Value} {T T' : List ByteArray} {W : List Int} (h : Cv w wr u v T W) (ho : OwnT (w.heap.size + 2) w1 u' T') (hg : wr.grownBy w1 u.ownBlock) : Cv w (w1.setCell ⟨w.heap.size, 0, none⟩ u') u' v T' W := by
 have hu := World.ownsRow.lt h.t
 have h0 : u.ownBlock ≠ some w.heap.size := fun e => by have := (hu _ e).1; omega
 have h1 : u.ownBlock ≠ some (w.heap.size + 1) := fun e => by have := (hu _ e).1; omega
 exact ⟨(h.a.grown hg h0).set0 u', (h.f.grownB hg h1).other (by omega) _ _, ownsRow_setCell_below ho (by show w.heap.size < _; omega) _, ownsRow_setCell_below (OwnOf.apart h.n h.t (by decide) hg) (by show w.heap.size < _; omega) _,
  (h.b.grown hg h.b.size (fun q hq => by have := (hu q hq).1; omega)).setCell (Nat.le_refl _) _⟩
theorem Cv.putW {w wr w1 : World} {u v v' : Value} {T : List ByteArray} {W W' : List Int} (h : Cv w wr u v T W) (ho : OwnW (w.heap.size + 2) w1 v' W') (hg : wr.grownBy w1 v.ownBlock) : Cv w (w1.setCell ⟨w.heap.size, 1, none⟩ v') u v' T W' := by
 have hu := World.ownsRow.lt h.n
 have h0 : v.ownBlock ≠ some w.heap.size := fun e => by have := (hu _ e).1; omega
 have h1 : v.ownBlock ≠ some (w.heap.size + 1) := fun e => by have := (hu _ e).1; omega
 exact ⟨(h.a.grown hg h0).set1 v', (h.f.grownB hg h1).other (by omega) _ _, ownsRow_setCell_below (OwnOf.apart h.t h.n (by decide) hg) (by show w.heap.size < _; omega) _, ownsRow_setCell_below ho (by show w.heap.size < _; omega) _,
  (h.b.grown hg h.b.size (fun q hq => by have := (hu q hq).1; omega)).setCell (Nat.le_refl _) _⟩
theorem Cv.other {w wr w1 : World} {u v : Value} {T : List ByteArray} {W : List Int} {q : Nat} (h : Cv w wr u v T W) (hg : wr.grownBy w1 (some q)) (hq : w.heap.size + 1 < q) (hu : ∀ g, u.ownBlock = some g → g ≠ q) (hv : ∀ g, v.ownBlock = some g → g ≠ q) : Cv w w1 u v T W :=
 ⟨h.a.grown hg (fun e => by injection e with e; omega), h.f.grownB hg (fun e => by injection e with e; omega), World.ownsRow.kept h.t hg (.inr fun e => hu q e rfl), World.ownsRow.kept h.n hg (.inr fun e => hv q e rfl), h.b.grown hg h.b.size (fun p hp => by injection hp with hp; omega)⟩
theorem Cv.lt {w wr : World} {u v : Value} {T : List ByteArray} {W : List Int} (h : Cv w wr u v T W) : (∀ g, u.ownBlock = some g → g ≠ wr.heap.size) ∧ (∀ g, v.ownBlock = some g → g ≠ wr.heap.size) :=
 ⟨fun g e => by have := (World.ownsRow.lt h.t g e).2; omega, fun g e => by have := (World.ownsRow.lt h.n g e).2; omega⟩
theorem Cv.fail {w w2 : World} {u v : Value} {T : List ByteArray} {W : List Int} (h : Cv w w2 u v T W) (rk : Nat) (rn : Int) (rs : ByteArray) :
 A2 (((((w2.setCell ⟨w.heap.size, 0, none⟩ (.slice none 0 0)).setCell ⟨w.heap.size, 1, none⟩ (.slice none 0 0)).setCell ⟨w.heap.size + 1, 0, none⟩ (.int .u8 (rk : Int))).setCell ⟨w.heap.size + 1, 1, none⟩ (.int .i64 rn)).setCell ⟨w.heap.size + 1, 2, none⟩ (.string rs)) w.heap.size (.slice none 0 0) (.slice none 0 0) ∧ B3 (((((w2.setCell ⟨w.heap.size, 0, none⟩ (.slice none 0 0)).setCell ⟨w.heap.size, 1, none⟩ (.slice none 0 0)).setCell ⟨w.heap.size + 1, 0, none⟩ (.int .u8 (rk : Int))).setCell ⟨w.heap.size + 1, 1, none⟩ (.int .i64 rn)).setCell ⟨w.heap.size + 1, 2, none⟩ (.string rs)) (w.heap.size + 1) rk rn rs ∧ Below w.heap.size w (((((w2.setCell ⟨w.heap.size, 0, none⟩ (.slice none 0 0)).setCell ⟨w.heap.size, 1, none⟩ (.slice none 0 0)).setCell ⟨w.heap.size + 1, 0, none⟩ (.int .u8 (rk : Int))).setCell ⟨w.heap.size + 1, 1, none⟩ (.int .i64 rn)).setCell ⟨w.heap.size + 1, 2, none⟩ (.string rs)) := by
 have h1 := (h.a.set0 (.slice none 0 0)).set1 (.slice none 0 0)
 have h2 := (h.f.other (show w.heap.size + 1 ≠ w.heap.size by omega) 0 (.slice none 0 0)).other (show w.heap.size + 1 ≠ w.heap.size by omega) 1 (.slice none 0 0)
 have h3 : Below w.heap.size w ((w2.setCell ⟨w.heap.size, 0, none⟩ (.slice none 0 0)).setCell ⟨w.heap.size, 1, none⟩ (.slice none 0 0)) := (h.b.setCell (Nat.le_refl _) _).setCell (Nat.le_refl _) _
 obtain ⟨k1, k2⟩ := zae h2 rk rn rs
 exact ⟨h1.grown k2 (fun e => by injection e with e; omega), k1, h3.grown k2 h3.size (fun q hq => by injection hq with hq; omega)⟩
theorem Cv.midT {w wr w1 : World} {u v : Value} {T : List ByteArray} {W : List Int} (h : Cv w wr u v T W) (hg : wr.grownBy w1 u.ownBlock) : A2 w1 w.heap.size u v :=
 h.a.grown hg (fun e => by have := (World.ownsRow.lt h.t _ e).1; omega)
theorem Cv.midW {w wr w1 : World} {u v : Value} {T : List ByteArray} {W : List Int} (h : Cv w wr u v T W) (hg : wr.grownBy w1 v.ownBlock) : A2 w1 w.heap.size u v :=
 h.a.grown hg (fun e => by have := (World.ownsRow.lt h.n _ e).1; omega)
theorem yft {a : Int} (h : InI a) : InI (a.tdiv 10000) := by
 unfold InI at *
 rcases Int.le_total 0 a with h0 | h0
 · rw [Int.tdiv_eq_ediv_of_nonneg h0]; omega
 · have e : a.tdiv 10000 = -((-a).tdiv 10000) := by rw [Int.neg_tdiv]; omega
   rw [e, Int.tdiv_eq_ediv_of_nonneg (by omega)]; omega
theorem Cv.done {w w2 : World} {u v : Value} {T : List ByteArray} {W : List Int} (h : Cv w w2 u v T W) : Cv w (((((w2.setCell ⟨w.heap.size, 0, none⟩ u).setCell ⟨w.heap.size, 1, none⟩ v).setCell ⟨w.heap.size + 1, 0, none⟩ (.int .u8 0)).setCell ⟨w.heap.size + 1, 1, none⟩ (.int .i64 0)).setCell ⟨w.heap.size + 1, 2, none⟩ (.string ⟨#[]⟩)) u v T W := by
 have h1 := (h.a.set0 u).set1 v
 have h2 := (h.f.other (show w.heap.size + 1 ≠ w.heap.size by omega) 0 u).other (show w.heap.size + 1 ≠ w.heap.size by omega) 1 v
 have h3 : Below w.heap.size w ((w2.setCell ⟨w.heap.size, 0, none⟩ u).setCell ⟨w.heap.size, 1, none⟩ v) := (h.b.setCell (Nat.le_refl _) _).setCell (Nat.le_refl _) _
 have h4 : OwnT (w.heap.size + 2) ((w2.setCell ⟨w.heap.size, 0, none⟩ u).setCell ⟨w.heap.size, 1, none⟩ v) u T := ownsRow_setCell_below (ownsRow_setCell_below h.t (by show w.heap.size < _; omega) _) (by show w.heap.size < _; omega) _
 have h5 : OwnW (w.heap.size + 2) ((w2.setCell ⟨w.heap.size, 0, none⟩ u).setCell ⟨w.heap.size, 1, none⟩ v) v W := ownsRow_setCell_below (ownsRow_setCell_below h.n (by show w.heap.size < _; omega) _) (by show w.heap.size < _; omega) _
 obtain ⟨k1, k2⟩ := zae h2 0 0 ⟨#[]⟩
 exact ⟨h1.grown k2 (fun e => by injection e with e; omega), k1, World.ownsRow.kept h4 k2 (.inr fun e => by have := (World.ownsRow.lt h4 _ e).1; omega), World.ownsRow.kept h5 k2 (.inr fun e => by have := (World.ownsRow.lt h5 _ e).1; omega), h3.grown k2 h3.size (fun q hq => by injection hq with hq; omega)⟩
theorem OwnOf.capLe {α : Type} {c : α → List Value} {n : Nat} {e : TypeId} {B : Nat} {w : World} {a : Option Addr} {l cp : Nat} {L : List α} (h : OwnOf e c n B w (.slice a l cp) L) : l ≤ cp := by
 rcases h.2 with ⟨h1, h2⟩ | ⟨g, cap, cur, h1, _, _, hc, _⟩
 · cases h1; exact Nat.le_refl _
 · cases h1; exact hc
def cvK (c : UInt8) (v : V3) : V3 := cvR (if c = 110 then 1 else 3) v.1 v.2.1 v.2.2
def zag : List UInt8 → List V3 → List ByteArray → List Int → (List ByteArray × List Int) ⊕ V3
 | c :: cs, v :: L, T, W => if (cvK c v).1 = 4 then .inr (cvK c v) else if c = 115 then zag cs L (T ++ [(cvK c v).2.2]) W else zag cs L T (W ++ [(zbv (cvK c v).2.1).tdiv 10000])
 | _, _, T, W => .inl (T, W ++ [1])
theorem zlm {ks : List UInt8} {L : List V3} {k : Nat} (hk : k < ks.length) (hl : k < L.length) (T : List ByteArray) (W : List Int) :
 zag (ks.drop k) (L.drop k) T W = if (cvK ks[k] L[k]).1 = 4 then .inr (cvK ks[k] L[k]) else if ks[k] = 115 then zag (ks.drop (k + 1)) (L.drop (k + 1)) (T ++ [(cvK ks[k] L[k]).2.2]) W else zag (ks.drop (k + 1)) (L.drop (k + 1)) T (W ++ [(zbv (cvK ks[k] L[k]).2.1).tdiv 10000]) := by
 rw [List.drop_eq_getElem_cons hk, List.drop_eq_getElem_cons hl]; rfl
theorem zog {ks : List UInt8} {L : List V3} {k : Nat} (hl : L.length ≤ k) (T : List ByteArray) (W : List Int) : zag (ks.drop k) (L.drop k) T W = .inl (T, W ++ [1]) := by
 rw [List.drop_of_length_le hl]
 cases ks.drop k <;> rfl
def CvP (R : (List ByteArray × List Int) ⊕ V3) (B : Nat) (e : Ending) (w' : World) : Prop :=
 match R with
 | .inl p => ∃ u v, e = .returned (.tuple #[.agg #[u, v], vOf (0, 0, ⟨#[]⟩), .bool true]) ∧ OwnT B w' u p.1 ∧ OwnW B w' v p.2
 | .inr r => e = .returned (.tuple #[.agg #[.slice none 0 0, .slice none 0 0], vOf r, .bool false])
section
variable {P : Program} {α : Type} {c : α → List Value} {n : Nat} {e : TypeId}
theorem zug {ops : Array Oper} {o : Oper} {a : Act} {w : World} {K : Act → World → Prop} {Q : Exit → Act → World → Prop} {E : Prop} (hgd : o.guard = none) (s x : Operand) (t : TypeId)
 (ho : o.op = .call { callee := .builtin .append, args := #[s, x], argTypes := #[t, t] }) (ht : P.underlying t = some (.slice e)) (z : Value) (bytes : Nat)
 (hinfo : (P.info? e).map (fun i => (i.zero, i.size, i.bytes)) = some (some z, n, bytes)) (hzs : z.cells.size = n) (hn0 : 0 < n) (hbl : 0 < bytes)
 (hn : ∀ x, (c x).length = n) (h1 : ∀ x, ∀ u ∈ c x, u.oneCell' = true)
 (B : Nat) (v : Value) (L : List α) (hs : a.eval s = v) (hown : OwnOf e c n B w v L) (A : Option Addr) (m cp : Nat) (M : List α) (hx : a.eval x = .slice A m cp) (hM : IsOf c n w A m M)
 (hl : (L.length + m) * bytes ≤ 140737488355328) (hB : B ≤ w.heap.size)
 (h : ∀ v' w', OwnOf e c n B w' v' (L ++ M) → w.grownBy w' v.ownBlock → (v'.ownBlock = v.ownBlock ∨ v'.ownBlock = some w.heap.size) → K (a.put o.dst v') w') : if Region.wanted o (yielded ops a.tmps) = true then Oper.wp P o a w K Q else E := by
 obtain ⟨i0, hi, hz0, hz1, hz2⟩ := info_parts hinfo
 refine ziv w hgd s x t ho B e i0 z n bytes ht hi hz0 hz1 hz2 hzs hn0 v L.length (L.flatMap c) hs hown w.heap.size A m cp (M.flatMap c) hx (hM.reads hn) ?_ ?_ ?_ hB ?_
 · intro u hu
   obtain ⟨y, _, hy⟩ := List.mem_flatMap.1 hu
   exact h1 y u hy
 · have : L.length + m ≤ (L.length + m) * bytes := Nat.le_mul_of_pos_right _ hbl
   unfold maxLen; omega
 · exact hl
 · intro v' w' ho' hg hr
   refine h v' w' ?_ hg hr
   unfold OwnOf
   rw [List.length_append, List.flatMap_append, hM.1]; exact ho'
end
end Go.Proofs.YtdhahiodnmmkeaaGreatDoor.Va
