/- Own lists whose values do not matter, in a drawn region that appends to them. -/
import Derived.Test.YtbkbikkieabcmaaDoorSeqP
namespace Go.Proofs.YtbkbikkieabcmaaDoor
open Go Go.RowKit
/-- A list of m of the region's own. -/
def fbX {α : Type} (e : TypeId) (c : α → List Value) (n Z m : Nat) : FB := (fun _ v w => ∃ M : List α, M.length = m ∧ OwnOf e c n Z w v M, fun _ v => v.ownBlock)
section
variable {α : Type} {e : TypeId} {c : α → List Value} {n Z m : Nat}
theorem good_X (u : List Nat) : GoodO Z (fbX (α := α) e c n Z m) u := by
  refine ⟨fun vs v w w' hk hs h => ?_, fun _ _ _ _ _ h => h, fun _ _ _ _ => rfl⟩
  obtain ⟨M, hM, h⟩ := h
  exact ⟨M, hM, (good_L (M := M) u).1 vs v w w' hk hs h⟩
end
section
variable {P : Program} {ops : Array Oper} {S : World → Prop} {Z : Nat} {L : List FB} {E U D : List (List Nat)} {A : (Nat → Value) → Act} {o : Oper} {i : Nat}
variable {α : Type} {e : TypeId} {c : α → List Value} {n m : Nat}
theorem obo_listx (hx : L.getD i dflFB = fbX (α := α) e c n Z m) {f : FuncId} (args : (Nat → Value) → Array Value) (hw : ∀ vs w, DepO L vs w (D.getD i []) → Region.wanted o (yielded ops (A vs).tmps) = true)
    (h : ∀ vs w, S w → DepO L vs w (D.getD i []) → (execOp (A vs).eval o).run P w = .ok (.enter f (args vs)) w)
    (hc : ∀ vs w, S w → Z ≤ w.heap.size → DepO L vs w (D.getD i []) → Calls P f (args vs) w fun r w' => (∃ v, r = .returned v ∧ ∃ M : List α, M.length = m ∧ OwnOf e c n w.heap.size w' v M) ∧ Below w.heap.size w w') : ObO P ops S Z L E U D A i o :=
  fun vs w hS hZ hD => .inl ⟨hw vs w hD, by
    unfold OperR; rw [h vs w hS hD]
    refine (hc vs w hS hZ hD).mono fun r w' ⟨⟨v, he, M, hM, ho⟩, hB⟩ => ⟨v, he, none, Below.grownBy hB _, by simp, ?_, fun g hg => ?_⟩
    · show (L.getD i dflFB).1 _ _ _
      rw [hx]
      obtain ⟨h1, h2⟩ := ho
      refine ⟨M, hM, h1, ?_⟩
      rcases h2 with h2 | ⟨g, cap, cur, rfl, hg, hrest⟩
      · exact .inl h2
      · exact .inr ⟨g, cap, cur, rfl, by omega, hrest⟩
    · have hg : (L.getD i dflFB).2 _ _ = some g := hg
      rw [hx] at hg
      have := World.ownsRow.lt ho g hg
      exact ⟨this.2, .inl this.1⟩⟩
theorem obo_appx {k j : Nat} (hx : L.getD i dflFB = fbX (α := α) e c n Z (k + m)) (hj : L.getD j dflFB = fbX (α := α) e c n Z k) (hE : j ∈ E.getD i []) (hw : ∀ vs w, DepO L vs w (D.getD i []) → Region.wanted o (yielded ops (A vs).tmps) = true)
    (s x : Operand) (t : TypeId) (ho : o.op = .call { callee := .builtin .append, args := #[s, x], argTypes := #[t, t] }) (ht : P.underlying t = some (.slice e)) (z : Value) (bytes : Nat)
    (hinfo : (P.info? e).map (fun i => (i.zero, i.size, i.bytes)) = some (some z, n, bytes)) (hzs : z.cells.size = n) (hn0 : 0 < n) (hbl : 0 < bytes)
    (hn : ∀ x, (c x).length = n) (h1 : ∀ x, ∀ u ∈ c x, u.oneCell' = true) (hl : (k + m) * bytes ≤ 140737488355328)
    (h : ∀ vs w, S w → Z ≤ w.heap.size → DepO L vs w (D.getD i []) → (A vs).eval s = vs j ∧ (∃ M : List α, M.length = k ∧ OwnOf e c n Z w (vs j) M) ∧ ∃ a cp, ∃ N : List α, (A vs).eval x = .slice a m cp ∧ IsOf c n w a m N) : ObO P ops S Z L E U D A i o :=
  fun vs w hS hZ hD => .inl ⟨hw vs w hD, by
    obtain ⟨hs, ⟨M, hM, hown⟩, a, cp, N, hxx, hN⟩ := h vs w hS hZ hD
    subst hM
    obtain ⟨i0, hi, hz0, hz1, hz2⟩ := info_parts hinfo
    obtain ⟨v', w', hrun, h2, h3, h4⟩ := run_append_any (P := P) w Z t o.type e i0 z n bytes ht hi hz0 hz1 hz2 hzs hn0 (vs j) M.length (M.flatMap c) hown w.heap.size a m cp (N.flatMap c) (hN.reads hn) (by
      intro u hu
      obtain ⟨y, _, hy⟩ := List.mem_flatMap.1 hu
      exact h1 y u hy) (by
      have : M.length + m ≤ (M.length + m) * bytes := Nat.le_mul_of_pos_right _ hbl
      unfold maxLen; omega) hl hZ
    unfold OperR execOp
    simp only [ho, resolve, invoke, builtin, Sem.run_bind, Sem.run_pure, Result.andThen_ok, List.map_toArray, List.map_cons, List.map_nil, hs, hxx, hrun]
    have hown' : OwnOf e c n Z w' v' (M ++ N) := by
      unfold OwnOf
      rw [List.length_append, List.flatMap_append, hN.1]; exact h2
    have hjb : ∀ g, (vs j).ownBlock = some g → ∃ k, k ∈ (spOf L E U i).eats ∧ (spOf L E U k).blk vs (vs k) = some g := fun g hg => ⟨j, hE, by show (L.getD j dflFB).2 _ _ = _; rw [hj]; exact hg⟩
    refine ⟨(vs j).ownBlock, h3, hjb, by show (L.getD i dflFB).1 _ _ _; rw [hx]; exact ⟨M ++ N, by rw [List.length_append, hN.1], hown'⟩, fun g hg => ?_⟩
    have hg : (L.getD i dflFB).2 _ _ = some g := hg
    rw [hx] at hg
    have hg : v'.ownBlock = some g := hg
    refine ⟨(World.ownsRow.lt hown' g hg).2, ?_⟩
    rcases h4 with h4 | h4
    · exact .inr (hjb g (h4 ▸ hg))
    · rw [h4] at hg; injection hg with hg; exact .inl (by omega)⟩
theorem obo_movex {j : Nat} (hx : L.getD i dflFB = fbX (α := α) e c n Z m) (hj : L.getD j dflFB = fbX (α := α) e c n Z m) (hE : j ∈ E.getD i []) (hw : ∀ vs w, DepO L vs w (D.getD i []) → Region.wanted o (yielded ops (A vs).tmps) = true)
    (h : ∀ vs w, S w → DepO L vs w (D.getD i []) → (execOp (A vs).eval o).run P w = .ok (.value (vs j)) w ∧ ∃ M : List α, M.length = m ∧ OwnOf e c n Z w (vs j) M) : ObO P ops S Z L E U D A i o :=
  fun vs w hS hZ hD => .inl ⟨hw vs w hD, by
    obtain ⟨hr, M, hM, hown⟩ := h vs w hS hD
    unfold OperR; rw [hr]
    have hjb : ∀ g, (vs j).ownBlock = some g → ∃ k, k ∈ (spOf L E U i).eats ∧ (spOf L E U k).blk vs (vs k) = some g := fun g hg => ⟨j, hE, by show (L.getD j dflFB).2 _ _ = _; rw [hj]; exact hg⟩
    refine ⟨none, World.grownBy.refl w _, by simp, by show (L.getD i dflFB).1 _ _ _; rw [hx]; exact ⟨M, hM, hown⟩, fun g hg => ?_⟩
    have hg : (L.getD i dflFB).2 _ _ = some g := hg
    rw [hx] at hg
    exact ⟨(World.ownsRow.lt hown g hg).2, .inr (hjb g hg)⟩⟩
end
end Go.Proofs.YtbkbikkieabcmaaDoor
