/- The iterator of a set's users, for a body that is told that they are in the set. -/
import Derived.Test.YtelanmknimapoaaGreatDoorMga
import Derived.Test.YtelanmknimapoaaGreatDoorGfA
namespace Go.Proofs.YtelanmknimapoaaGreatDoor.Gf
open Go Go.RowKit Go.Shelf
attribute [local go_sem] Oper.semAt_some
abbrev El (x : W64) := {u : Nat // x.getLsbD u = true}
def elF (x : W64) : Nat → List (El x)
  | 0 => []
  | k + 1 => if h : x.getLsbD k = true then elF x k ++ [⟨k, h⟩] else elF x k
theorem elF_t {x : W64} {k : Nat} (h : x.getLsbD k = true) : elF x (k + 1) = elF x k ++ [⟨k, h⟩] := by
  conv => lhs; unfold elF
  rw [dif_pos h]
theorem elF_f {x : W64} {k : Nat} (h : x.getLsbD k = false) : elF x (k + 1) = elF x k := by
  conv => lhs; unfold elF
  rw [dif_neg (by rw [h]; decide)]
def els (x : W64) : List (El x) := elF x 64
theorem elF_pre (x : W64) : ∀ d k, elF x k <+: elF x (k + d) := by
  intro d k
  induction d with
  | zero => exact List.prefix_refl _
  | succ d ih =>
    rw [← Nat.add_assoc]
    cases h : x.getLsbD (k + d)
    · rw [elF_f h]; exact ih
    · rw [elF_t h]; exact ih.trans (List.prefix_append _ _)
theorem elF_len (x : W64) : ∀ k, (elF x k).length ≤ k
  | 0 => Nat.le_refl _
  | k + 1 => by
    have := elF_len x k
    cases h : x.getLsbD k
    · rw [elF_f h]; omega
    · rw [elF_t h, List.length_append, List.length_singleton]; omega
theorem mem2_in (n : Nat) (l Bn n₀ : Nat) (x : W64) (J Jx : List (El x) → World → Prop)
    (hY : ∀ pre u W, J pre W → pre.length < (els x).length → YieldAt Fence.wide (n - 1) Tryz.prog l #[.int .i64 ((u.1 : Nat) : Int)] W fun e W' =>
      (e = .returned (.bool true) ∧ J (pre ++ [u]) W' ∧ KeepU n₀ Bn W W') ∨ (e = .returned (.bool false) ∧ Jx (pre ++ [u]) W'))
    (W : World) (hBn : W.cell? ⟨Bn, 0, none⟩ = some (.int .u64 (x.toNat : Int))) (h0 : J [] W) :
    CallsIn Fence.wide n Tryz.prog 74 #[.func (.yield l) #[] #[], .pointer (some ⟨Bn, 0, none⟩)] W fun e W' => (∃ v, e = .returned v) ∧
      ((∃ ys, ys = els x ∧ J ys W') ∨ (∃ pre, pre <+: els x ∧ Jx pre W')) := by
  refine callsIn_of_wp Tryz.func74 rfl trivial ?_ rfl
  simp only [Tryz.ntmps74, List.size_toArray, List.length_cons, List.length_nil, Nat.reduceAdd, Nat.reduceSub, Array.replicate_succ, Array.replicate_zero, List.push_toArray, List.append_toArray, List.nil_append, List.cons_append]
  gi_wp2
  gi_loopw [4] (fun i wr => ∃ k : Nat, k ≤ 64 ∧ i = .int .i64 k ∧ wr.cell? ⟨Bn, 0, none⟩ = some (.int .u64 (x.toNat : Int)) ∧ J (elF x k) wr) (fun i _ => 64 - (intOf i).toNat)
  case atStart => exact ⟨0, by omega, rfl, hBn, h0⟩
  case round =>
    obtain ⟨k, hk, rfl, hc, hj⟩ := hrel
    by_cases hlt : k < 64
    · have hh := hasB_in x k hlt
      have hj0 := Lib.hid hj
      cases hs : x.getLsbD k
      · rw [hs] at hh
        have hm : Hid (elF x (k + 1) = elF x k) := by unfold Hid; exact elF_f hs
        clear hj
        gi_wp2_with fail
        refine ⟨trivial, fun h => (by cases h), ?_⟩
        refine (callsIn_wide.2 (has_any x k _)).mono ?_
        rw [hh]
        rintro e w' ⟨rfl, rfl⟩
        gi_wp2_with fail
        refine ⟨fun _ h => (by cases h), ?_⟩
        gi_wp2_with fail
        go_roundw
        case rel => exact ⟨k + 1, by omega, by go_num, hc, by rw [hm.out]; exact hj0.out⟩
        case measure => simp [intOf]; omega
      · rw [hs] at hh
        have hm : Hid (elF x (k + 1) = elF x k ++ [⟨k, hs⟩]) := by unfold Hid; exact elF_t hs
        have hp : elF x (k + 1) <+: els x := by have := elF_pre x (64 - (k + 1)) (k + 1); rwa [show k + 1 + (64 - (k + 1)) = 64 by omega] at this
        have hlen : (elF x k).length < (els x).length := by have := hp.length_le; rw [hm.out] at this; simp at this; omega
        have hp' := Lib.hid hp
        obtain ⟨fn, tmps, assign, body, hy, hR⟩ := hY _ ⟨k, hs⟩ wr hj hlen
        clear hj hp hlen
        gi_wp2_with fail
        refine ⟨trivial, fun h => (by cases h), ?_⟩
        refine (callsIn_wide.2 (has_any x k _)).mono ?_
        rw [hh]
        rintro e w' ⟨rfl, rfl⟩
        gi_wp2_with fail
        refine ⟨fun h => (by cases h), ?_⟩
        refine hR.mono ?_
        rintro e W3 (⟨rfl, hJ3, hk3⟩ | ⟨rfl, hJx3⟩)
        · have hc3 : W3.cell? ⟨Bn, 0, none⟩ = some (.int .u64 (x.toNat : Int)) := hk3.2.trans hc
          rw [← hm.out] at hJ3
          have hj3 := Lib.hid hJ3
          clear hJ3
          gi_wp2_with fail
          go_roundw
          case rel => exact ⟨k + 1, by omega, by go_num, hc3, hj3.out⟩
          case measure => simp [intOf]; omega
        · rw [← hm.out] at hJx3
          have hj3 := Lib.hid hJx3
          clear hJx3
          gi_wp2_with fail
          refine bodyPost_ret (results_none rfl _ _ _) rfl ?_
          exact ⟨⟨_, rfl⟩, .inr ⟨_, hp'.out, hj3.out⟩⟩
    · obtain rfl : k = 64 := by omega
      gi_wp2
      go_end0
      exact ⟨⟨_, rfl⟩, .inl ⟨_, rfl, hj⟩⟩
theorem els_stops (n : Nat) (Bn n₀ : Nat) (x : W64) (w : World) (hBn : Bn < w.heap.size) (hc : w.cell? ⟨Bn, 0, none⟩ = some (.int .u64 (x.toNat : Int))) :
    SeqStopsK Fence.wide n Tryz.prog 74 #[.pointer (some ⟨Bn, 0, none⟩)] (fun u : El x => #[Value.int .i64 (u.1 : Int)]) (KeepU n₀ Bn) (fun ys => ys = els x) (fun pre => pre <+: els x) (els x).length w := fun l J Jx W hW _ _ hY h0 =>
  mem2_in n l Bn n₀ x J Jx hY W ((hW.cell (p := ⟨Bn, 0, none⟩) hBn).trans hc) h0
/-! What the loop over them makes of words -/
def stF {x : W64} (s : List By × Nat) (u : El x) : List By × Nat := if u.1 < s.2 then s else (s.1 ++ runW u.1 (eo x u.1 - 1), eo x u.1)
def stL {x : W64} (pre : List (El x)) : List By × Nat := pre.foldl stF ([], 0)
theorem stL_snoc {x : W64} (pre : List (El x)) (u : El x) : stL (pre ++ [u]) = stF (stL pre) u := by unfold stL; rw [List.foldl_append]; rfl
theorem runW_len (f l : Nat) (h : l < 64) : (runW f l).length ≤ 64 := by
  unfold runW
  split
  · simp
  · simp; omega
theorem stL_bd {x : W64} (pre : List (El x)) : (stL pre).1.length ≤ 64 * pre.length ∧ (stL pre).2 ≤ 64 := by
  generalize hn : pre.length = n
  induction n generalizing pre with
  | zero => obtain rfl := List.eq_nil_of_length_eq_zero hn; exact ⟨Nat.le_refl _, Nat.zero_le _⟩
  | succ n ih =>
    have hne : pre ≠ [] := fun e => by subst e; cases hn
    obtain ⟨q, u, rfl⟩ : ∃ q u, pre = q ++ [u] := ⟨_, _, (List.dropLast_concat_getLast hne).symm⟩
    rw [List.length_append, List.length_singleton] at hn
    have h := ih q (by omega)
    rw [stL_snoc]
    unfold stF
    split
    · omega
    · have hu := lt_of_in u.2
      have h1 := eo_le (x := x) (u := u.1) (by omega)
      have h3 := eo_gt u.2
      have h2 := runW_len u.1 (eo x u.1 - 1) (by omega)
      dsimp only
      rw [List.length_append]
      omega
theorem stL_inv (x : W64) : ∀ k, k ≤ 64 → (stL (elF x k)).1 ++ W x (max (stL (elF x k)).2 k) = W x 0 ∧ (∀ i, k ≤ i → i < (stL (elF x k)).2 → x.getLsbD i = true) ∧ (stL (elF x k)).2 ≤ 64
  | 0, _ => by
    have e : stL (elF x 0) = ([], 0) := rfl
    rw [e]
    dsimp only
    rw [List.nil_append, Nat.max_self]
    exact ⟨rfl, fun i _ h => absurd h (Nat.not_lt_zero i), Nat.zero_le _⟩
  | k + 1, hk => by
    obtain ⟨h1, h2, h3⟩ := stL_inv x k (by omega)
    cases h : x.getLsbD k
    · rw [elF_f h]
      have hle : (stL (elF x k)).2 ≤ k := by
        rcases Nat.lt_or_ge k (stL (elF x k)).2 with h4 | h4
        · have := h2 k (Nat.le_refl _) h4; rw [h] at this; cases this
        · exact h4
      refine ⟨?_, fun i _ h5 => by omega, h3⟩
      rw [show max (stL (elF x k)).2 (k + 1) = k + 1 by omega, ← W_not h]
      rwa [show max (stL (elF x k)).2 k = k by omega] at h1
    · rw [elF_t h, stL_snoc]
      unfold stF
      dsimp only
      by_cases h4 : k < (stL (elF x k)).2
      · rw [if_pos h4]
        refine ⟨?_, fun i h5 h6 => h2 i (by omega) h6, h3⟩
        rw [show max (stL (elF x k)).2 (k + 1) = max (stL (elF x k)).2 k by omega]; exact h1
      · rw [if_neg h4]
        have hg := eo_gt h
        have hl := eo_le (x := x) (u := k) (by omega)
        refine ⟨?_, fun i h5 h6 => eo_in (u := k) (by omega) h6, hl⟩
        dsimp only
        rw [show max (eo x k) (k + 1) = eo x k by omega, List.append_assoc, ← W_jump h]
        rwa [show max (stL (elF x k)).2 k = k by omega] at h1
theorem stL_end (x : W64) : (stL (els x)).1 = W x 0 := by
  obtain ⟨h1, _, h3⟩ := stL_inv x 64 (Nat.le_refl _)
  unfold els
  rw [show max (stL (elF x 64)).2 64 = 64 by omega, W_end x (Nat.le_refl _), List.append_nil] at h1
  exact h1
end Go.Proofs.YtelanmknimapoaaGreatDoor.Gf
