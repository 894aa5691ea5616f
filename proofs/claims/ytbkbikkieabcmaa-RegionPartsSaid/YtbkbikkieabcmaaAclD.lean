/- Copies and comparisons of rules, and the chapter's example. -/
import Derived.Test.YtbkbikkieabcmaaAclC
import Derived.BigQuiet
import Derived.Deep.QuietTactic
namespace Go.Proofs.Ytbkbikkieabcmaa.Re
open Go.RowKit AM
abbrev OwnL (B : Nat) (w : World) (v : Value) (L : List RV) : Prop := OwnOf 51 cells7 7 B w v L
theorem zero7 : (Value.agg #[.int .i64 0, .int .i64 0, .int .i64 0, .int .i64 0, .int .u64 0, .int .u64 0, .int .u64 0]).cells.size = 7 := rfl
theorem copyrules_any (a : Option Addr) (len cap : Nat) (L : List RV) (hl : len * 56 ≤ 140737488355328) (w : World) (hL : IsL w a len L) :
    Calls Try.prog 6 #[.slice a len cap] w fun e w' => (∃ v, e = .returned v ∧ OwnL w.heap.size w' v L) ∧ Below w.heap.size w w' := by
  go_enter Try.func6, Try.ntmps6
  go_wp2_with (at_builtin; refine wpList_appOf rfl (.const (.slice none 0 0)) (.tmp 3) 24 rfl Try.underlying24 _ 56 infoRule zero7 (by decide) (by decide) cells7_len cells7_one w.heap.size _ [] rfl (OwnOf.nil _ _ _ _ _) a len cap L rfl hL (by simp only [List.length_nil, Nat.zero_add]; omega) (Nat.le_refl _) ?_)
  intro v' w1 ho hb
  have HO := Lib.hid ho
  have HB := Lib.hid hb
  clear ho hb
  go_wp2_with fail
  go_ret
  exact ⟨⟨_, rfl, by simpa using HO.out⟩, HB.out⟩
set_option maxHeartbeats 1600000 in
theorem eqrules_any (a a' : Option Addr) (n cap cap' : Nat) (l : List RV) (hl : n ≤ 1000000) (w : World) (h1 : IsL w a n l) (h2 : IsL w a' n l) :
    Calls Try.prog 9 #[.slice a n cap, .slice a' n cap'] w fun e w' => e = .returned (.bool true) ∧ Below w.heap.size w w' := by
  have H1 := Lib.hid h1
  have H2 := Lib.hid h2
  clear h1 h2
  go_enter Try.func9, Try.ntmps9
  go_wp2_with fail
  go_loopw [5] (fun i wr => ∃ k : Nat, k ≤ n ∧ i = .int .i64 k ∧ Below w.heap.size w wr) (fun i _ => n - (intOf i).toNat)
  case atStart => exact ⟨0, Nat.zero_le _, rfl, Below.refl _ _⟩
  case round =>
    obtain ⟨k, hk, rfl, hB⟩ := hrel
    have HB := Lib.hid hB
    clear hB
    by_cases hlt : k < n
    · obtain ⟨b, off, rfl, hr⟩ := H1.out.2 (by omega)
      obtain ⟨b', off', rfl, hr'⟩ := H2.out.2 (by omega)
      have hkl : k < l.length := by rw [H1.out.1]; exact hlt
      obtain ⟨c1, c2, c3, c4, c5, c6, c7⟩ := RowOf.seven (hr.later HB.out) k hkl
      obtain ⟨d1, d2, d3, d4, d5, d6, d7⟩ := RowOf.seven (hr'.later HB.out) k hkl
      clear hr hr'
      generalize l[k] = r at *
      obtain ⟨x1, x2, x3, x4, x5, x6, x7⟩ := r
      dsimp only at *
      go_wp2_with fail
      go_quiet (fail)
      go_wp2_with fail
      go_roundw
      case rel => exact ⟨k + 1, by omega, by go_num, ⟨HB.out.os, HB.out.tape, HB.out.output, HB.out.size, HB.out.block⟩⟩
      case measure => simp [intOf]; omega
    · go_wp2_with fail
      go_ret
      exact ⟨rfl, HB.out⟩
def ruleL : List RV := [⟨1, 1, 1024, 1024, 7#64, 7#64, 1#64⟩, ⟨2, 1, 2, 3, 1#64, 1#64, 1#64⟩, ⟨2, 2, 3, 2, 2#64, 0#64, 1#64⟩]
theorem ex_i : whI 2 2 ruleL = 2 := by kernel_rfl
theorem ex_e : whE 2 2 ruleL = 0 := by kernel_rfl
end Go.Proofs.Ytbkbikkieabcmaa.Re
