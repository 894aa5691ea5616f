/- The laws' own functions: small, in. -/
import Derived.Test.YtbkbikkieabcmaaDoorRectV
import Derived.Test.YtbkbikkieabcmaaDoorRectP
import Derived.Test.YtbkbikkieabcmaaDoorSeqI
namespace Go.Proofs.YtbkbikkieabcmaaDoor.Re
open Go.RowKit AM
def smB (a b c d : Int) : Bool := ckB a b c d && decide ((c - a + 1) * (d - b + 1) ≤ 400)
set_option maxHeartbeats 3200000 in
theorem in_any (p q : Int) (a : Option Addr) (n cap : Nat) (l : List R4) (hl : n ≤ 1000000) (w : World) (hr : IsR w a n l) :
    Calls Tryd.prog 16 #[.agg #[.int .i64 p, .int .i64 q], .slice a n cap] w fun e w' => e = .returned (.bool (inL l p q)) ∧ Below w.heap.size w w' := by
  have HR := Lib.hid hr
  have HLL := Lib.hid hr.1
  have HT := Lib.hid (Two'.start w p q 25)
  clear hr
  go_enter Tryd.func16, Tryd.ntmps16
  go_wp2_with fail
  go_loopw [5] (fun i wr => ∃ k : Nat, k ≤ n ∧ i = .int .i64 k ∧ inL (l.take k) p q = false ∧ Below w.heap.size w wr ∧ Two' wr w.heap.size p q) (fun i _ => n - (intOf i).toNat)
  case atStart => exact ⟨0, Nat.zero_le _, rfl, rfl, below_alloc _ _, HT.out⟩
  case round =>
    obtain ⟨k, hk, rfl, hin, hB, hT⟩ := hrel
    have HIN := Lib.hid hin
    have HB := Lib.hid hB
    have HT2 := Lib.hid hT
    clear hin hB hT
    by_cases hlt : k < n
    · obtain ⟨b, off, rfl, hrr⟩ := (HR.out.later HB.out).2 (by omega)
      have hkl : k < l.length := by rw [HLL.out]; exact hlt
      obtain ⟨c1, c2, c3, c4⟩ := hrr.2 k hkl
      have HYes : Hid (has4 l[k] p q = true → inL l p q = true) := fun h => inL_iff.2 ⟨_, List.getElem_mem hkl, h⟩
      have HNo : Hid (has4 l[k] p q = false → inL (l.take (k + 1)) p q = false) := fun h => by
        unfold inL
        rw [List.take_succ_eq_append_getElem hkl, List.any_append]
        have := HIN.out
        unfold inL at this
        rw [this]
        simp [h]
      clear hrr
      generalize l[k] = r at *
      obtain ⟨x1, x2, x3, x4⟩ := r
      unfold has4 at HYes HNo
      dsimp only at *
      obtain ⟨_, t1, t2⟩ := HT2.out
      have key : ¬ x1 ≤ p ∨ (x1 ≤ p ∧ ¬ p ≤ x3) ∨ (x1 ≤ p ∧ p ≤ x3 ∧ ¬ x2 ≤ q) ∨ (x1 ≤ p ∧ p ≤ x3 ∧ x2 ≤ q ∧ ¬ q ≤ x4) ∨ (x1 ≤ p ∧ p ≤ x3 ∧ x2 ≤ q ∧ q ≤ x4) := by omega
      rcases key with h | ⟨h, h'⟩ | ⟨h, h', h''⟩ | ⟨h, h', h'', h3⟩ | ⟨h, h', h'', h3⟩
      rotate_right
      · have HY := Lib.hid (HYes.out (rhB_t ⟨h, h', h'', h3⟩))
        have e1 : decide (x1 ≤ p) = true := decide_eq_true h
        have e2 : decide (p ≤ x3) = true := decide_eq_true h'
        have e3 : decide (x2 ≤ q) = true := decide_eq_true h''
        have e4 : decide (q ≤ x4) = true := decide_eq_true h3
        go_wp2_with fail
        go_quiet (fail)
        go_wp2_with fail
        go_ret
        exact ⟨by rw [HY.out]; rfl, drewN_below HB.out _⟩
      all_goals
        have HN := Lib.hid (HNo.out (rhB_f (by omega)))
        first
          | have e1 : decide (x1 ≤ p) = false := decide_eq_false h
          | (have e1 : decide (x1 ≤ p) = true := decide_eq_true h
             first
               | have e2 : decide (p ≤ x3) = false := decide_eq_false h'
               | (have e2 : decide (p ≤ x3) = true := decide_eq_true h'
                  first
                    | have e3 : decide (x2 ≤ q) = false := decide_eq_false h''
                    | (have e3 : decide (x2 ≤ q) = true := decide_eq_true h''
                       have e4 : decide (q ≤ x4) = false := decide_eq_false h3)))
        go_wp2_with fail
        go_quiet (fail)
        go_wp2_with fail
        go_roundw
        case rel => exact ⟨k + 1, by omega, by go_num, HN.out, drewN_below HB.out _, HT2.out⟩
        case measure => simp [intOf]; omega
    · have hf : inL l p q = false := by have := HIN.out; rwa [List.take_of_length_le (by rw [HLL.out]; omega)] at this
      have HF := Lib.hid hf
      clear hf
      go_wp2_with fail
      go_ret
      exact ⟨by rw [HF.out]; rfl, HB.out⟩
end Go.Proofs.YtbkbikkieabcmaaDoor.Re
