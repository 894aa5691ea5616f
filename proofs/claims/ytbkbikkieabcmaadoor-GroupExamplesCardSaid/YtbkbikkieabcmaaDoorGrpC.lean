/- Members: a list collected in a range over a function. -/
import Derived.Test.YtbkbikkieabcmaaDoorGrpB
namespace Go.Proofs.YtbkbikkieabcmaaDoor
open Go.RowKit Go.Shelf
attribute [local go_sem] Oper.semAt_some
theorem members_in (x : W64) (w : World) :
    CallsIn Fence.wide 3 Tryd.prog 22 #[.int .u64 (x.toNat : Int)] w fun e W' => ∃ v, e = .returned v ∧ OwnI w.heap.size W' v (usr x) ∧ Below w.heap.size w W' := by
  obtain ⟨i0, hi, hz0, hz1, hz2⟩ := info_parts int_info
  have hul := usr_len x
  refine callsIn_of_wp_marks Tryd.func22 rfl trivial ?_ rfl
  simp only [Tryd.ntmps22, List.size_toArray, List.length_cons, List.length_nil, Nat.reduceAdd, Nat.reduceSub, Array.replicate_succ, Array.replicate_zero, List.push_toArray, List.append_toArray, List.nil_append, List.cons_append]
  gi_wp2_with fail
  refine ⟨trivial, ?_⟩
  refine (callsIn_wide.2 (mem_any _ _)).mono ?_
  rintro e w' ⟨rfl, rfl⟩
  have bO := Boxed.new w 48 (.slice none 0 0)
  have bN := Boxed.new (w.alloc (.cells #[.slice none 0 0] 48)) 42 (.int .u64 (x.toNat : Int))
  rw [World.size_alloc] at bN
  have hB0 : Below w.heap.size w ((w.alloc (.cells #[.slice none 0 0] 48)).alloc (.cells #[.int .u64 (x.toNat : Int)] 42)) := ((Below.refl _ w).alloc (Nat.le_refl _) _).alloc (by simp) _
  gi_wp2_with fail
  refine wpIn_rangeFunc_ownG rfl (by omega) (gf := 48) (lb := #[.pointer (some ⟨w.heap.size + 1, 0, none⟩)]) rfl trivial (enters_of Tryd.func48 (by kernel_rfl) rfl)
    (usr_stops _ (w.heap.size + 1) w.heap.size x _ (by simp) bN.cell) keepU_t (keepU_b (by simp; omega) (by simp)) (Below.refl _ _) (fun _ => rfl)
    (fun pre W => ((∃ v, Boxed W w.heap.size 48 v ∧ W.ownsRow w.heap.size 3 1 v pre.length (pre.map iV) ∧ True) ∧ Boxed W (w.heap.size + 1) 42 (.int .u64 (x.toNat : Int))) ∧ Below w.heap.size w W)
    (fun _ _ _ => False)
    (OwnFrom.and (OwnFrom.and (Own.from (holdsRow_own w.heap.size w.heap.size 48 3 1 (fun pre : List Nat => pre.length) (fun pre : List Nat => pre.map iV) (fun _ _ => True)) _) (Own.from (boxed_own (β := List Nat) (w.heap.size + 1) 42 (fun _ => .int .u64 (x.toNat : Int))) _)) (ownFrom_below (Nat.le_refl _) (by simp; omega))) (fun _ _ _ _ _ hs _ _ => hs)
    ⟨⟨⟨_, bO.alloc _, World.ownsRow_nil _ _ _ _, trivial⟩, bN⟩, hB0⟩
    (fun u => { tmps := #[.int .u64 (x.toNat : Int), undef, .slice none 0 0, .pointer (some ⟨w.heap.size, 0, none⟩), .int .i64 (u : Int), .int .u64 (x.toNat : Int), .func (.func 48) #[] #[.pointer (some ⟨w.heap.size + 1, 0, none⟩)], .int .i64 (u : Int), undef, undef, undef, undef, undef], defers := [] }) ?assign ?body ?done ?stop
  case assign =>
    intro l u W K hK
    gi_wp2
    exact hK
  case body =>
    rintro l pre u W ⟨⟨⟨v, hv, hrow, _⟩, hs⟩, hB⟩ hlt
    have hc := hv.cell
    gi_wp2_with (gi_at_builtin; refine wpListIn_append_own _ rfl _ _ 48 rfl w.heap.size 3 i0 (.int .i64 0) 1 8 Tryd.underlying48 hi hz0 hz1 hz2 rfl (by decide) _ _ _ rfl (hrow.alloc _) ⟨W.heap.size, 0, none⟩ 1 1 [iV u] rfl rfl (cell_one_new _ _ _) (by simp [Value.oneCell', iV]) (by unfold maxLen; omega) (by omega) (by have := hB.size; simp; omega) ?_; intro v' w1 hown' hgrow _; obtain ⟨g', cap', rfl⟩ := ownsRow_succ hown'; have hs1 := (hs.alloc _).kept hgrow (hs.not_row (by decide) hrow); obtain ⟨hv1, hv2, hr2, hk2, hb2⟩ := hv.appended (by decide) hrow hB.size (Nat.le_refl _) hown' hgrow; have hc1 := hv1.cell; have hf1 := hv1.frozen)
    have hs2 : Boxed (w1.setCell ⟨w.heap.size, 0, none⟩ (.slice (some ⟨g', 0, none⟩) (pre.length + 1) cap')) (w.heap.size + 1) 42 (.int .u64 (x.toNat : Int)) := hs1.kept (grownBy_setCell' w1 w.heap.size _) (by simp)
    exact ⟨hk2.from _, ⟨hb2, hs2.cell.trans hs.cell.symm⟩, ⟨⟨_, hv2, by simpa using hr2, trivial⟩, hs2⟩, hB.trans hb2⟩
  case done =>
    rintro D ys W hD rfl ⟨⟨⟨v, hv, hrow, _⟩, _⟩, hB⟩ hK
    have hc := hv.cell
    gi_wp2
    refine ⟨by simp, .inl ⟨_, _, rfl, run_takeDeferred hK, ?_⟩⟩
    exact ⟨_, results_tmp rfl _ _ _, v, rfl, ownsRow_putObj hrow _ hK rfl, hB.trans (belowK_b (w := w) (Nat.le_refl _) W D _ _ (by simp at hD; omega) hK rfl rfl)⟩
  case stop =>
    rintro D c pre W _ _ h _
    exact h.elim
end Go.Proofs.YtbkbikkieabcmaaDoor
