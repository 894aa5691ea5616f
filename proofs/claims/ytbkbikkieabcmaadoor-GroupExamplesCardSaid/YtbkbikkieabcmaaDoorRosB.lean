/- Contract of roster.In. -/
import Derived.Test.YtbkbikkieabcmaaDoorRosA
import Derived.Test.YtbkbikkieabcmaaDoorRosC
import Derived.Deep.MidRow
import Derived.Deep.Cut
namespace Go.Proofs.YtbkbikkieabcmaaDoor
open Go.RowKit
theorem runTo {P : Program} {ops : Array Oper} {rest : List Oper} {o : Oper} {a : Act} {w : World} {Q : Exit → Act → World → Prop} (hg : o.guard = none) (dst : Option Tmp) (hdst : o.dst = dst)
    (v : Value) (w' : World) (hrun : (execOp a.eval o).run P w = .ok (.value v) w')
    (h : wpList P ops Q rest (a.put dst v) w') : wpList P ops Q (o :: rest) a w := by
  subst hdst
  refine wpList_plain hg fun K hK => ?_
  unfold Oper.wp
  rw [hrun, Oper.upon_value]
  exact hK _ _ h
def iV (u : Nat) : Value := .int .i64 (u : Int)
def OwnI (B : Nat) (w : World) (v : Value) (l : List Nat) : Prop := w.ownsRow B 3 1 v l.length (l.map iV)
theorem int_info : (Tryd.prog.info? 3).map (fun i => (i.zero, i.size, i.bytes)) = some (some (.int .i64 0), 1, 8) := by kernel_rfl
theorem OwnI.nil (B : Nat) (w : World) : OwnI B w (.slice none 0 0) [] := World.ownsRow_nil _ _ _ _
theorem OwnI.alloc {B : Nat} {w : World} {v : Value} {l : List Nat} (h : OwnI B w v l) (o : Obj) : OwnI B (w.alloc o) v l := World.ownsRow.alloc h o
theorem OwnI.drew {B : Nat} {w : World} {v : Value} {l : List Nat} (h : OwnI B w v l) : OwnI B w.drew v l := h
theorem OwnI.isI {B : Nat} {w : World} {v : Value} {l : List Nat} (h : OwnI B w v l) : ∃ a cap, v = .slice a l.length cap ∧ IsI w a l.length l := by
  rcases h.2 with ⟨rfl, h0⟩ | ⟨g, cap, cur, rfl, hg, hh, hc, _⟩
  · exact ⟨none, 0, by rw [h0], rfl, fun h => by omega⟩
  · refine ⟨_, cap, rfl, rfl, fun _ => ⟨⟨g, 0, none⟩, rfl, (Array.getElem?_eq_some_iff.1 hh).1, fun i u hi => ?_⟩⟩
    have hk := World.ownsRow.cells h (g := g) rfl i (iV u) (by simp [hi])
    simpa [Addr.add, iV] using hk
theorem wpList_appI {ops : Array Oper} {rest : List Oper} {o : Oper} {a : Act} {w : World} {Q : Exit → Act → World → Prop} (hgd : o.guard = none) (s x : Operand)
    (ho : o.op = .call { callee := .builtin .append, args := #[s, x], argTypes := #[48, 48] }) (B : Nat) (v : Value) (l : List Nat) (hs : a.eval s = v) (hown : OwnI B w v l)
    (g : Nat) (c : Nat) (hx : a.eval x = .slice (some ⟨g, 0, none⟩) 1 1) (hc : w.cell? ⟨g, 0, none⟩ = some (iV c)) (hl : l.length ≤ 1000000) (hB : B ≤ w.heap.size)
    (h : ∀ v' w', OwnI B w' v' (l ++ [c]) → Below B w w' → wpList Tryd.prog ops Q rest (a.put o.dst v') w') : wpList Tryd.prog ops Q (o :: rest) a w := by
  obtain ⟨i0, hi, hz0, hz1, hz2⟩ := info_parts int_info
  refine wpList_append_own w hgd s x 48 ho B 3 i0 (.int .i64 0) 1 8 Tryd.underlying48 hi hz0 hz1 hz2 rfl (by decide) v l.length (l.map iV) hs hown ⟨g, 0, none⟩ 1 1 [iV c] hx rfl ?_ ?_ ?_ ?_ hB ?_
  · intro j u hj
    match j, hj with
    | 0, hj => simp at hj; subst hj; exact hc
  · intro u hu; simp at hu; subst hu; rfl
  · unfold maxLen; omega
  · omega
  · intro v' w' ho' hg _
    refine h v' w' ?_ ((Below.refl _ _).grown hg hB (fun k hk => (World.ownsRow.lt hown k hk).1))
    unfold OwnI
    rw [List.length_append, List.map_append]; exact ho'
/-- Who is in, of the first k. -/
def memL (S : Nat → Bool) (k : Nat) : List Nat := (List.range k).filter S
theorem memL_succ (S : Nat → Bool) (k : Nat) : memL S (k + 1) = if S k then memL S k ++ [k] else memL S k := by
  unfold memL
  rw [List.range_succ, List.filter_append]
  cases h : S k <;> simp [h]
theorem memL_lt (S : Nat → Bool) (k : Nat) : ∀ u ∈ memL S k, u < k := by intro u hu; unfold memL at hu; simp at hu; exact hu.1
theorem memL_length (S : Nat → Bool) (k : Nat) : (memL S k).length ≤ k := by unfold memL; have := List.length_filter_le S (List.range k); simpa using this
def seatL (S : Nat → Bool) : List Value := (List.range 64).map fun i => Value.int .i64 (bitI (S i))
theorem seatL_at (S : Nat → Bool) (i : Nat) (h : i < 64) : (seatL S)[i]? = some (.int .i64 (bitI (S i))) := by
  unfold seatL
  simp [h]
theorem seatL_length (S : Nat → Bool) : (seatL S).length = 64 := by unfold seatL; simp
theorem seats_range {w : World} {b : Nat} {n : Int} {S : Nat → Bool} (h : Ros w b n S) : w.rangeAt b 1 (seatL S) := by
  intro j v hv
  have hj : j < 64 := by
    have := (List.getElem?_eq_some_iff.1 hv).1
    rwa [seatL_length] at this
  rw [seatL_at S j hj] at hv
  cases hv
  exact h.2.2.1 j hj
end Go.Proofs.YtbkbikkieabcmaaDoor
