/- Lists of ranges that a call makes; the contracts of present and EqualRects. -/
import Derived.Test.YtbkbikkieabcmaaDoorRectC
import Derived.OwnWalk
import Derived.Laws.OwnMore
import Derived.BigQuiet
import Derived.Deep.QuietTactic
namespace Go.Proofs.YtbkbikkieabcmaaDoor.Re
open Go.RowKit AM
theorem infoRect : (Tryd.prog.info? 23).map (fun i => (i.zero, i.size, i.bytes)) = some (some (.agg #[.int .i64 0, .int .i64 0, .int .i64 0, .int .i64 0]), 4, 32) := by kernel_rfl
def cells4 (r : R4) : List Value := [.int .i64 r.c1, .int .i64 r.r1, .int .i64 r.c2, .int .i64 r.r2]
def cellsR (l : List R4) : List Value := l.flatMap cells4
theorem cellsR_length (l : List R4) : (cellsR l).length = l.length * 4 := by
  induction l with
  | nil => rfl
  | cons x l ih => unfold cellsR at *; rw [List.flatMap_cons, List.length_append, ih]; simp [cells4]; omega
theorem cellsR_snoc (l : List R4) (r : R4) : cellsR l ++ cells4 r = cellsR (l ++ [r]) := by
  unfold cellsR; rw [List.flatMap_append]; simp
theorem cellsR_at : ∀ (l : List R4) (i : Nat) (h : i < l.length), (cellsR l)[i * 4]? = some (.int .i64 l[i].c1) ∧ (cellsR l)[i * 4 + 1]? = some (.int .i64 l[i].r1) ∧ (cellsR l)[i * 4 + 2]? = some (.int .i64 l[i].c2) ∧ (cellsR l)[i * 4 + 3]? = some (.int .i64 l[i].r2) := by
  intro l
  induction l with
  | nil => intro i h; cases h
  | cons x l ih =>
    intro i h
    have e : cellsR (x :: l) = .int .i64 x.c1 :: .int .i64 x.r1 :: .int .i64 x.c2 :: .int .i64 x.r2 :: cellsR l := rfl
    rw [e]
    cases i with
    | zero => exact ⟨rfl, rfl, rfl, rfl⟩
    | succ i =>
      have := ih i (by simpa using h)
      rw [show (i + 1) * 4 = i * 4 + 1 + 1 + 1 + 1 by omega]
      simpa using this
/-- A list of ranges of the call's own. -/
def OwnR (B : Nat) (w : World) (v : Value) (l : List R4) : Prop := w.ownsRow B 23 4 v l.length (cellsR l)
theorem OwnR.nil (B : Nat) (w : World) : OwnR B w (.slice none 0 0) [] := World.ownsRow_nil _ _ _ _
theorem OwnR.alloc {B : Nat} {w : World} {v : Value} {l : List R4} (h : OwnR B w v l) (o : Obj) : OwnR B (w.alloc o) v l := World.ownsRow.alloc h o
theorem OwnR.later {w w1 : World} {v : Value} {l : List R4} {B : Nat} (h : OwnR B w v l) (hb : Below w.heap.size w w1) : OwnR B w1 v l := by
  obtain ⟨h1, h2⟩ := h
  refine ⟨h1, ?_⟩
  rcases h2 with h2 | ⟨g, cap, cur, rfl, hg, hh, hrest⟩
  · exact .inl h2
  · refine .inr ⟨g, cap, cur, rfl, hg, ?_, hrest⟩
    rw [hb.block g (Array.getElem?_eq_some_iff.1 hh).1]; exact hh
theorem OwnR.one {B : Nat} (w : World) (hB : B ≤ w.heap.size) (a b c d : Int) : OwnR B (w.alloc (.cells #[.int .i64 a, .int .i64 b, .int .i64 c, .int .i64 d] 23)) (.slice (some ⟨w.heap.size, 0, none⟩) 1 1) [⟨a, b, c, d⟩] :=
  ⟨rfl, .inr ⟨w.heap.size, 1, #[.int .i64 a, .int .i64 b, .int .i64 c, .int .i64 d], rfl, hB, heap_alloc_new w _, Nat.le_refl _, by decide, rfl, rfl⟩⟩
/-- A slice that reads as a list of ranges. -/
def IsR (w : World) (a : Option Addr) (n : Nat) (l : List R4) : Prop := l.length = n ∧ (0 < n → ∃ b off, a = some ⟨b, off, none⟩ ∧ RRow w b off l)
theorem IsR.later {w w' : World} {a : Option Addr} {n : Nat} {l : List R4} (h : IsR w a n l) (hB : Below w.heap.size w w') : IsR w' a n l :=
  ⟨h.1, fun h0 => by obtain ⟨b, off, hb, hr⟩ := h.2 h0; exact ⟨b, off, hb, hr.later hB⟩⟩
theorem OwnR.isR {B : Nat} {w : World} {v : Value} {l : List R4} (h : OwnR B w v l) : ∃ a cap, v = .slice a l.length cap ∧ IsR w a l.length l := by
  have h' := h
  rcases h.2 with ⟨rfl, h0⟩ | ⟨g, cap, cur, rfl, _, hh, hc, _⟩
  · exact ⟨none, 0, by rw [h0], rfl, fun h => by omega⟩
  · refine ⟨_, cap, rfl, rfl, fun _ => ⟨g, 0, rfl, (Array.getElem?_eq_some_iff.1 hh).1, fun i hi => ?_⟩⟩
    have h3 := cellsR_at l i hi
    have key : ∀ j, j < l.length * 4 → w.cell? ⟨g, j, none⟩ = (cellsR l)[j]? := fun j hj => World.ownsRow.cellAt h' j hj
    refine ⟨?_, ?_, ?_, ?_⟩
    · rw [Nat.zero_add, key _ (by omega)]; exact h3.1
    · rw [Nat.zero_add, key _ (by omega)]; exact h3.2.1
    · rw [Nat.zero_add, key _ (by omega)]; exact h3.2.2.1
    · rw [Nat.zero_add, key _ (by omega)]; exact h3.2.2.2
theorem wpList_appR {ops : Array Oper} {rest : List Oper} {o : Oper} {a : Act} {w : World} {Q : Exit → Act → World → Prop} (hgd : o.guard = none) (s x : Operand)
    (ho : o.op = .call { callee := .builtin .append, args := #[s, x], argTypes := #[36, 36] }) (B : Nat) (v : Value) (l : List R4) (hs : a.eval s = v) (hown : OwnR B w v l)
    (g : Nat) (r : R4) (hx : a.eval x = .slice (some ⟨g, 0, none⟩) 1 1) (hc : w.cell? ⟨g, 0, none⟩ = some (.int .i64 r.c1) ∧ w.cell? ⟨g, 1, none⟩ = some (.int .i64 r.r1) ∧ w.cell? ⟨g, 2, none⟩ = some (.int .i64 r.c2) ∧ w.cell? ⟨g, 3, none⟩ = some (.int .i64 r.r2)) (hl : l.length ≤ 1000000) (hB : B ≤ w.heap.size)
    (h : ∀ v' w', OwnR B w' v' (l ++ [r]) → Below B w w' → wpList Tryd.prog ops Q rest (a.put o.dst v') w') : wpList Tryd.prog ops Q (o :: rest) a w := by
  obtain ⟨i0, hi, hz0, hz1, hz2⟩ := info_parts infoRect
  refine wpList_append_own w hgd s x 36 ho B 23 i0 (.agg #[.int .i64 0, .int .i64 0, .int .i64 0, .int .i64 0]) 4 32 Tryd.underlying36 hi hz0 hz1 hz2 rfl (by decide) v l.length (cellsR l) hs hown ⟨g, 0, none⟩ 1 1 (cells4 r) hx rfl ?_ ?_ ?_ ?_ hB ?_
  · intro j u hj
    obtain ⟨c0, c1, c2, c3⟩ := hc
    match j, hj with
    | 0, hj => simp [cells4] at hj; subst hj; exact c0
    | 1, hj => simp [cells4] at hj; subst hj; exact c1
    | 2, hj => simp [cells4] at hj; subst hj; exact c2
    | 3, hj => simp [cells4] at hj; subst hj; exact c3
  · intro u hu; simp [cells4] at hu; rcases hu with rfl | rfl | rfl | rfl <;> rfl
  · unfold maxLen; omega
  · omega
  · intro v' w' ho' hg _
    refine h v' w' ?_ ((Below.refl _ _).grown hg hB (fun k hk => (World.ownsRow.lt hown k hk).1))
    unfold OwnR
    rw [List.length_append, ← cellsR_snoc]; exact ho'
def R4.em (r : R4) : Bool := emB r.c1 r.r1 r.c2 r.r2
/-- Those that are not empty. -/
def some4 (l : List R4) : List R4 := l.filter fun r => !r.em
theorem some4_snoc (l : List R4) (k : Nat) (h : k < l.length) : some4 (l.take (k + 1)) = some4 (l.take k) ++ (if l[k].em then [] else [l[k]]) := by
  unfold some4
  rw [List.take_succ_eq_append_getElem h, List.filter_append]
  cases hb : l[k].em <;> simp [hb]
theorem some4_len (l : List R4) : (some4 l).length ≤ l.length := List.length_filter_le _ _
set_option maxHeartbeats 1600000 in
theorem present_any (b off cap : Nat) (l : List R4) (hl : l.length ≤ 1000) (w : World) (hr : RRow w b off l) :
    Calls Tryd.prog 33 #[.slice (some ⟨b, off, none⟩) l.length cap] w fun e w' => (∃ v, e = .returned v ∧ OwnR w.heap.size w' v (some4 l)) ∧ Below w.heap.size w w' := by
  have HR := Lib.hid hr
  clear hr
  go_enter Tryd.func33, Tryd.ntmps33
  go_wp2_with fail
  go_loopw [3, 8] (fun v i wr => ∃ k : Nat, k ≤ l.length ∧ i = .int .i64 k ∧ OwnR w.heap.size wr v (some4 (l.take k)) ∧ Below w.heap.size w wr) (fun _ i _ => l.length - (intOf i).toNat)
  case atStart => exact ⟨0, Nat.zero_le _, rfl, OwnR.nil _ _, Below.refl _ _⟩
  case round =>
    obtain ⟨k, hk, rfl, ho, hB⟩ := hrel
    have HO := Lib.hid ho
    have HB := Lib.hid hB
    clear ho hB
    have HL := Lib.hid (some4_len (l.take k))
    have HL2 : Hid ((some4 (l.take k)).length ≤ 1000000) := by have := HL.out; simp at this; unfold Hid; omega
    by_cases hlt : k < l.length
    · obtain ⟨c1, c2, c3, c4⟩ := (HR.out.later HB.out).2 k hlt
      have HZ := Lib.hid HB.out.size
      have HS := Lib.hid (some4_snoc l k hlt)
      unfold R4.em at HS
      generalize l[k] = r at *
      obtain ⟨x1, x2, x3, x4⟩ := r
      dsimp only at *
      go_wp2_with fail
      refine (rempty_any x1 x2 x3 x4 _).mono ?_
      rintro e w1 ⟨rfl, hB1⟩
      have HF : Hid (Four w1 wr.heap.size x1 x2 x3 x4) := (Four.start wr x1 x2 x3 x4 _).later hB1
      have HO1 := Lib.hid ((HO.out.alloc (.cells #[.int .i64 x1, .int .i64 x2, .int .i64 x3, .int .i64 x4] 23)).later hB1)
      have HB1 := Lib.hid (Below.next (HB.out.alloc HZ.out _) hB1)
      have hz1 := HB1.out.size
      clear hB1
      obtain ⟨_, f1, f2, f3, f4⟩ := HF.out
      cases hc : emB x1 x2 x3 x4
      · have HE : Hid (some4 (l.take (k + 1)) = some4 (l.take k) ++ [⟨x1, x2, x3, x4⟩]) := by unfold Hid; rw [HS.out, hc]; rfl
        clear hc
        go_wp2_with (at_builtin; refine wpList_appR rfl (.tmp 15) _ rfl w.heap.size _ _ rfl (HO1.out.alloc _) w1.heap.size ⟨x1, x2, x3, x4⟩ rfl ⟨by simp, by simp, by simp, by simp⟩ HL2.out (by simp; omega) ?_)
        intro v' w2 ho' hb'
        have HO2 := Lib.hid ho'
        have HB2 := Lib.hid ((HB1.out.alloc hz1 _).trans hb')
        clear ho' hb'
        go_wp2_with fail
        go_roundw
        case rel => exact ⟨k + 1, by omega, by go_num, by rw [HE.out]; exact HO2.out, HB2.out⟩
        case measure => simp [intOf]; omega
      · have HE : Hid (some4 (l.take (k + 1)) = some4 (l.take k)) := by unfold Hid; rw [HS.out, hc]; simp
        clear hc
        go_wp2_with fail
        go_roundw
        case rel => exact ⟨k + 1, by omega, by go_num, by rw [HE.out]; exact HO1.out, HB1.out⟩
        case measure => simp [intOf]; omega
    · have HT : Hid (l.take k = l) := List.take_of_length_le (by omega)
      rw [HT.out] at HO
      go_wp2_with fail
      go_ret
      exact ⟨⟨_, rfl, HO.out⟩, HB.out⟩
end Go.Proofs.YtbkbikkieabcmaaDoor.Re
