/- Copies and comparisons of rules, and the chapter's example. -/
import Derived.Test.YthgnhdfppmoooaaAclC
import Derived.BigQuiet
import Derived.Deep.QuietTactic
namespace Go.Proofs.Ythgnhdfppmoooaa.Re
open Go.RowKit AM
abbrev OwnL (B : Nat) (w : World) (v : Value) (L : List RV) : Prop := OwnOf 44 cells7 7 B w v L
theorem zero7 : (Value.agg #[.int .i64 0, .int .i64 0, .int .i64 0, .int .i64 0, .int .u64 0, .int .u64 0, .int .u64 0]).cells.size = 7 := rfl
theorem copyrules_any (a : Option Addr) (len cap : Nat) (L : List RV) (hl : len * 56 ≤ 140737488355328) (w : World) (hL : IsL w a len L) :
    Calls Try.prog 6 #[.slice a len cap] w fun e w' => (∃ v, e = .returned v ∧ OwnL w.heap.size w' v L) ∧ Below w.heap.size w w' := by
  go_enter Try.func6, Try.ntmps6
  go_wp2_with (at_builtin; refine wpList_appOf rfl (.const (.slice none 0 0)) (.tmp 3) 24 rfl Try.underlying24 _ 56 infoRule zero7 (by decide) (by decide) cells7_len cells7_one w.heap.size _ [] rfl (OwnOf.nil _ _ _ _ _) a len cap L rfl hL (by simp only [List.length_nil, Nat.zero_add]; omega) (Nat.le_refl _) ?_)
  intro v' w1 ho hb
  have HO := Lib.hid ho
  have HB := Lib.hid hb
  clear ho hb
  go_wp2_with fail
  go_ret
  exact ⟨⟨_, rfl, by simpa using HO.out⟩, HB.out⟩
def ruleL : List RV := [⟨1, 1, 1024, 1024, 7#64, 7#64, 1#64⟩, ⟨2, 1, 2, 3, 1#64, 1#64, 1#64⟩, ⟨2, 2, 3, 2, 2#64, 0#64, 1#64⟩]
theorem ex_i : whI 2 2 ruleL = 2 := by kernel_rfl
theorem ex_e : whE 2 2 ruleL = 0 := by kernel_rfl
end Go.Proofs.Ythgnhdfppmoooaa.Re
