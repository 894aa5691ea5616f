/- Contracts of addr's small functions. -/
import Derived.Test.YtbkbikkieabcmaaDoorAddrA
import Derived.Laws.BytesArg
namespace Go.Proofs.YtbkbikkieabcmaaDoor.Re
open Go.RowKit AM
theorem bcell {W w1 : World} (hb : Below W.heap.size W w1) : (∀ b o, b < W.heap.size → w1.cell? ⟨b, o, none⟩ = W.cell? ⟨b, o, none⟩) ∧ (∀ b o, b < W.heap.size → w1.frozen? ⟨b, o, none⟩ = W.frozen? ⟨b, o, none⟩) :=
  ⟨fun b o h => hb.cell (p := ⟨b, o, none⟩) h, fun b o h => hb.frozen (p := ⟨b, o, none⟩) h⟩
theorem Below.next {W w1 w2 : World} (h : Below W.heap.size W w1) (k : Below w1.heap.size w1 w2) : Below W.heap.size W w2 := h.trans (k.mono h.size)
theorem retB {a b : Bool} (h : a = b) : Ending.returned (.bool a) = .returned (.bool b) := by rw [h]
theorem okR_t {c r : Int} (h : 1 ≤ c ∧ c ≤ 1024 ∧ 1 ≤ r ∧ r ≤ 1024) : okR c r = true := by unfold okR; exact decide_eq_true h
theorem okR_f {c r : Int} (h : ¬ (1 ≤ c ∧ c ≤ 1024 ∧ 1 ≤ r ∧ r ≤ 1024)) : okR c r = false := by unfold okR; exact decide_eq_false h
theorem okR_i {c r : Int} (h : okR c r = true) : 1 ≤ c ∧ c ≤ 1024 ∧ 1 ≤ r ∧ r ≤ 1024 := by unfold okR at h; exact of_decide_eq_true h
theorem okR_n {c r : Int} (h : okR c r = false) : ¬ (1 ≤ c ∧ c ≤ 1024 ∧ 1 ≤ r ∧ r ≤ 1024) := by unfold okR at h; exact of_decide_eq_false h

set_option maxHeartbeats 400000 in
theorem valid_any (c r : Int) (w : World) :
    Calls Tryd.prog 30 #[.agg #[.int .i64 c, .int .i64 r]] w fun e w' => e = .returned (.bool (okR c r)) ∧ Below w.heap.size w w' := by
  rcases Int.lt_or_le c 1 with h1 | h1
  · have hk := Lib.hid (okR_f (c := c) (r := r) (by omega))
    go_enter Tryd.func30, Tryd.ntmps30
    go_wp2
    go_ret
    exact ⟨retB hk.out.symm, (Below.refl _ _).alloc (Nat.le_refl _) _⟩
  · rcases Int.lt_or_le 1024 c with h2 | h2
    · have hk := Lib.hid (okR_f (c := c) (r := r) (by omega))
      go_enter Tryd.func30, Tryd.ntmps30
      go_wp2
      go_ret
      exact ⟨retB hk.out.symm, (Below.refl _ _).alloc (Nat.le_refl _) _⟩
    · rcases Int.lt_or_le r 1 with h3 | h3
      · have hk := Lib.hid (okR_f (c := c) (r := r) (by omega))
        go_enter Tryd.func30, Tryd.ntmps30
        go_wp2
        go_ret
        exact ⟨retB hk.out.symm, (Below.refl _ _).alloc (Nat.le_refl _) _⟩
      · rcases Int.lt_or_le 1024 r with h4 | h4
        · have hk := Lib.hid (okR_f (c := c) (r := r) (by omega))
          go_enter Tryd.func30, Tryd.ntmps30
          go_wp2
          go_ret
          exact ⟨retB ((decide_eq_false (by omega)).trans hk.out.symm), (Below.refl _ _).alloc (Nat.le_refl _) _⟩
        · have hk := Lib.hid (okR_t (c := c) (r := r) (by omega))
          go_enter Tryd.func30, Tryd.ntmps30
          go_wp2
          go_ret
          exact ⟨retB hk.out.symm, (Below.refl _ _).alloc (Nat.le_refl _) _⟩

theorem letsN_1 {n : Int} (h : n ≤ 26) : letsN n = [65 + (n - 1) % 26] := by unfold letsN; rw [if_pos h]
theorem letsN_2 {n : Int} (h : 26 < n) (h' : n ≤ 702) : letsN n = [65 + ((n - 1) / 26 - 1) % 26, 65 + (n - 1) % 26] := by unfold letsN; rw [if_neg (by omega), if_pos h']
theorem letsN_3 {n : Int} (h : 702 < n) : letsN n = [65 + (((n - 1) / 26 - 1) / 26 - 1) % 26, 65 + ((n - 1) / 26 - 1) % 26, 65 + (n - 1) % 26] := by unfold letsN; rw [if_neg (by omega), if_neg (by omega)]
theorem ret_s0 {a b : List Int} (h : a = b) : Ending.returned (.tuple #[.string (strOfNums a), .int .i64 0]) = .returned (.tuple #[.string (strOfNums b), .int .i64 0]) := by rw [h]
set_option maxRecDepth 100000 in
set_option maxHeartbeats 1600000 in
theorem letters_yes (n : Int) (h0 : 1 ≤ n) (h1 : n ≤ 1024) (w : World) :
    Calls Tryd.prog 53 #[.int .i64 n] w fun e w' => e = .returned (.tuple #[.string (strOfNums (letsN n)), .int .i64 0]) ∧ Below w.heap.size w w' := by
  rcases Int.lt_or_le 26 n with ha | ha
  · rcases Int.lt_or_le 702 n with hb | hb
    · have hk := Lib.hid (letsN_3 hb)
      go_enter Tryd.func53, Tryd.ntmps53
      go_wp2_with fail
      refine wp_loop_rounds 4 ?_
      rw [rounds_succ]
      go_wp2_with fail
      rw [rounds_succ]
      have : 0 < (n - 1) / 26 := by omega
      go_wp2_with fail
      rw [rounds_succ]
      have : 0 < ((n - 1) / 26 - 1) / 26 := by omega
      go_wp2_with fail
      rw [rounds_succ]
      have : (((n - 1) / 26 - 1) / 26 - 1) / 26 = 0 := by omega
      go_wp2_with fail
      rw [run_convert_bytes_arg (P := Tryd.prog) _ 88 5 Tryd.underlying88 Tryd.underlying5 w.heap.size 0 3 3 [65 + (((n - 1) / 26 - 1) / 26 - 1) % 26, 65 + ((n - 1) / 26 - 1) % 26, 65 + (n - 1) % 26] rfl ?hc 9 Tryd.underlying9]
      case hc => intro i hi; match i, hi with
        | 0, _ => simp
        | 1, _ => simp
        | 2, _ => simp
      go_wp2_with fail
      go_ret2
      exact ⟨ret_s0 hk.out.symm, (Below.refl _ _).alloc (Nat.le_refl _) _⟩
    · have hk := Lib.hid (letsN_2 ha hb)
      go_enter Tryd.func53, Tryd.ntmps53
      go_wp2_with fail
      refine wp_loop_rounds 4 ?_
      rw [rounds_succ]
      go_wp2_with fail
      rw [rounds_succ]
      have : 0 < (n - 1) / 26 := by omega
      go_wp2_with fail
      rw [rounds_succ]
      have : ((n - 1) / 26 - 1) / 26 = 0 := by omega
      go_wp2_with fail
      rw [run_convert_bytes_arg (P := Tryd.prog) _ 88 5 Tryd.underlying88 Tryd.underlying5 w.heap.size 1 2 2 [65 + ((n - 1) / 26 - 1) % 26, 65 + (n - 1) % 26] rfl ?hc 9 Tryd.underlying9]
      case hc => intro i hi; match i, hi with
        | 0, _ => simp
        | 1, _ => simp
      go_wp2_with fail
      go_ret2
      exact ⟨ret_s0 hk.out.symm, (Below.refl _ _).alloc (Nat.le_refl _) _⟩
  · have hk := Lib.hid (letsN_1 ha)
    go_enter Tryd.func53, Tryd.ntmps53
    go_wp2_with fail
    refine wp_loop_rounds 4 ?_
    rw [rounds_succ]
    go_wp2_with fail
    rw [rounds_succ]
    have : (n - 1) / 26 = 0 := by omega
    go_wp2_with fail
    rw [run_convert_bytes_arg (P := Tryd.prog) _ 88 5 Tryd.underlying88 Tryd.underlying5 w.heap.size 2 1 1 [65 + (n - 1) % 26] rfl ?hc 9 Tryd.underlying9]
    case hc => intro i hi; match i, hi with | 0, _ => simp
    go_wp2_with fail
    go_ret2
    exact ⟨ret_s0 hk.out.symm, (Below.refl _ _).alloc (Nat.le_refl _) _⟩
theorem letters_no (n : Int) (h : n < 1 ∨ 1024 < n) (w : World) :
    Calls Tryd.prog 53 #[.int .i64 n] w fun e w' => e = .returned (.tuple #[.string ⟨#[]⟩, .int .i64 3]) ∧ Below w.heap.size w w' := by
  rcases h with h | h
  · go_enter Tryd.func53, Tryd.ntmps53
    go_wp2_with fail
    go_ret2
    exact ⟨rfl, Below.refl _ _⟩
  · have h' : ¬ n < 1 := by omega
    go_enter Tryd.func53, Tryd.ntmps53
    go_wp2_with fail
    go_ret2
    exact ⟨rfl, Below.refl _ _⟩

end Go.Proofs.YtbkbikkieabcmaaDoor.Re
