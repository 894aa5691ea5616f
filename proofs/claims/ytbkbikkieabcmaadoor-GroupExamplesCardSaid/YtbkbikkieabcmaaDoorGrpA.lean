/- The iterator of a set's users. -/
import Derived.RangeFuncNested
import Derived.RangeFuncBound
import Derived.RangeFuncCalls
import Derived.RangeFuncLeaves
import Derived.Shelf.Abstract
import Derived.Shelf.RegionOpen
import Derived.WalkKit
import Derived.OwnWalkIn
import Derived.TacticsInMore
import Derived.LoopNIn
import Derived.LoopIn
import Derived.Test.YtbkbikkieabcmaaDoorRosB
namespace Go.Proofs.YtbkbikkieabcmaaDoor
open Go.RowKit Go.Shelf
attribute [local go_sem] Oper.semAt_some
def usr (x : W64) : List Nat := memL (fun i => x.getLsbD i) 64
theorem hasB_in (x : W64) (k : Nat) (h : k < 64) : hasB x (k : Int) = x.getLsbD k := by
  unfold hasB; rw [vld_t ⟨by omega, by omega⟩]; simp
theorem memL_pre (S : Nat → Bool) : ∀ d k, memL S k <+: memL S (k + d) := by
  intro d k
  induction d with
  | zero => exact List.prefix_refl _
  | succ d ih =>
    rw [← Nat.add_assoc, memL_succ]
    split
    · exact ih.trans (List.prefix_append _ _)
    · exact ih
/-- What a round that goes on keeps: what lies below n₀, and the set's box. -/
def KeepU (n₀ Bn : Nat) (A B : World) : Prop := Below n₀ A B ∧ B.cell? ⟨Bn, 0, none⟩ = A.cell? ⟨Bn, 0, none⟩
theorem keepU_t {n₀ Bn : Nat} {A B C : World} (h : KeepU n₀ Bn A B) (k : KeepU n₀ Bn B C) : KeepU n₀ Bn A C := ⟨h.1.trans k.1, k.2.trans h.2⟩
theorem keepU_b {n₀ Bn : Nat} {w : World} (hn : n₀ ≤ w.heap.size) (hB : Bn < w.heap.size) (W : World) (l : Nat) (o o' : Obj) (hl : w.heap.size ≤ l) (h : W.heap[l]? = some o) (h1 : o.isCells = false) (h2 : o.isWalk = false) : KeepU n₀ Bn W (W.putObj l o') :=
  ⟨belowK_b hn W l o o' hl h h1 h2, (belowK_b (n₀ := Bn + 1) (w := w) (by omega) W l o o' hl h h1 h2).cell (p := ⟨Bn, 0, none⟩) (Nat.lt_succ_self _)⟩
theorem mem1_in (n : Nat) (l Bn n₀ : Nat) (x : W64) (J Jx : List Nat → World → Prop)
    (hY : ∀ pre u W, J pre W → pre.length < (usr x).length → YieldAt Fence.wide (n - 1) Tryd.prog l #[.int .i64 ((u : Nat) : Int)] W fun e W' =>
      (e = .returned (.bool true) ∧ J (pre ++ [u]) W' ∧ KeepU n₀ Bn W W') ∨ (e = .returned (.bool false) ∧ Jx (pre ++ [u]) W'))
    (W : World) (hBn : W.cell? ⟨Bn, 0, none⟩ = some (.int .u64 (x.toNat : Int))) (h0 : J [] W) :
    CallsIn Fence.wide n Tryd.prog 48 #[.func (.yield l) #[] #[], .pointer (some ⟨Bn, 0, none⟩)] W fun e W' => (∃ v, e = .returned v) ∧
      ((∃ ys, ys = usr x ∧ J ys W') ∨ (∃ pre, pre <+: usr x ∧ Jx pre W')) := by
  refine callsIn_of_wp Tryd.func48 rfl trivial ?_ rfl
  simp only [Tryd.ntmps48, List.size_toArray, List.length_cons, List.length_nil, Nat.reduceAdd, Nat.reduceSub, Array.replicate_succ, Array.replicate_zero, List.push_toArray, List.append_toArray, List.nil_append, List.cons_append]
  gi_wp2
  gi_loopw [4] (fun i wr => ∃ k : Nat, k ≤ 64 ∧ i = .int .i64 k ∧ wr.cell? ⟨Bn, 0, none⟩ = some (.int .u64 (x.toNat : Int)) ∧ J (memL (fun i => x.getLsbD i) k) wr) (fun i _ => 64 - (intOf i).toNat)
  case atStart => exact ⟨0, by omega, rfl, hBn, h0⟩
  case round =>
    obtain ⟨k, hk, rfl, hc, hj⟩ := hrel
    by_cases hlt : k < 64
    · have hh := hasB_in x k hlt
      have hj0 := Lib.hid hj
      cases hs : x.getLsbD k
      · rw [hs] at hh
        have hm : Hid (memL (fun i => x.getLsbD i) (k + 1) = memL (fun i => x.getLsbD i) k) := by unfold Hid; rw [memL_succ]; simp [hs]
        clear hj
        gi_wp2_with fail
        refine ⟨trivial, fun h => (by cases h), ?_⟩
        refine (callsIn_wide.2 (has_any x k _)).mono ?_
        rw [hh]
        rintro e w' ⟨rfl, rfl⟩
        gi_wp2_with fail
        refine ⟨fun _ h => (by cases h), ?_⟩
        gi_wp2_with fail
        go_roundw
        case rel => exact ⟨k + 1, by omega, by go_num, hc, by rw [hm.out]; exact hj0.out⟩
        case measure => simp [intOf]; omega
      · rw [hs] at hh
        have hm : Hid (memL (fun i => x.getLsbD i) (k + 1) = memL (fun i => x.getLsbD i) k ++ [k]) := by unfold Hid; rw [memL_succ]; simp [hs]
        have hp : memL (fun i => x.getLsbD i) (k + 1) <+: usr x := by have := memL_pre (fun i => x.getLsbD i) (64 - (k + 1)) (k + 1); rwa [show k + 1 + (64 - (k + 1)) = 64 by omega] at this
        have hlen : (memL (fun i => x.getLsbD i) k).length < (usr x).length := by have := hp.length_le; rw [hm.out] at this; simp at this; omega
        have hp' := Lib.hid hp
        obtain ⟨fn, tmps, assign, body, hy, hR⟩ := hY _ k wr hj hlen
        clear hj hp hlen
        gi_wp2_with fail
        refine ⟨trivial, fun h => (by cases h), ?_⟩
        refine (callsIn_wide.2 (has_any x k _)).mono ?_
        rw [hh]
        rintro e w' ⟨rfl, rfl⟩
        gi_wp2_with fail
        refine ⟨fun h => (by cases h), ?_⟩
        refine hR.mono ?_
        rintro e W3 (⟨rfl, hJ3, hk3⟩ | ⟨rfl, hJx3⟩)
        · have hc3 : W3.cell? ⟨Bn, 0, none⟩ = some (.int .u64 (x.toNat : Int)) := hk3.2.trans hc
          rw [← hm.out] at hJ3
          have hj3 := Lib.hid hJ3
          clear hJ3
          gi_wp2_with fail
          go_roundw
          case rel => exact ⟨k + 1, by omega, by go_num, hc3, hj3.out⟩
          case measure => simp [intOf]; omega
        · rw [← hm.out] at hJx3
          have hj3 := Lib.hid hJx3
          clear hJx3
          gi_wp2_with fail
          refine bodyPost_ret (results_none rfl _ _ _) rfl ?_
          exact ⟨⟨_, rfl⟩, .inr ⟨_, hp'.out, hj3.out⟩⟩
    · obtain rfl : k = 64 := by omega
      gi_wp2
      go_end0
      exact ⟨⟨_, rfl⟩, .inl ⟨_, rfl, hj⟩⟩
end Go.Proofs.YtbkbikkieabcmaaDoor
