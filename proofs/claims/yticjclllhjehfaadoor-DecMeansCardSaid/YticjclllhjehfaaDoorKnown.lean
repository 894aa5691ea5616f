/- The fixed numbers of the statements: known() returns true. -/
import Derived.Test.YticjclllhjehfaaDoorDecList
import Derived.Test.YticjclllhjehfaaDoorDecMul
import Derived.Laws.BytesArg
namespace Go.Proofs.YticjclllhjehfaaDoor
open Go.RowKit

set_option maxRecDepth 100000 in
set_option maxHeartbeats 800000 in
theorem fmtu_1 (w : World) :
    Calls Tryd.prog 48 #[.int .u64 1, .int .i64 10] w fun e w' => e = .returned (.string ⟨#[49]⟩) ∧ w = w' := by
  go_enter Tryd.func48, Tryd.ntmps48
  go_wp2
  go_ret
  exact ⟨rfl, rfl⟩
set_option maxRecDepth 100000 in
set_option maxHeartbeats 800000 in
theorem trim_2500 (w : World) :
    Calls Tryd.prog 49 #[.string ⟨#[50,53,48,48]⟩, .string ⟨#[48]⟩] w fun e w' => e = .returned (.string ⟨#[50,53]⟩) ∧ w = w' := by
  go_enter Tryd.func49, Tryd.ntmps49
  go_wp2
  refine wp_loop_rounds 3 ?_
  rw [rounds_succ]
  go_wp2
  rw [rounds_succ]
  go_wp2
  rw [rounds_succ]
  go_wp2
  go_ret
  exact ⟨rfl, rfl⟩
set_option maxRecDepth 100000 in
set_option maxHeartbeats 800000 in
theorem format_12500 (w : World) :
    Calls Tryd.prog 19 #[.int .i64 12500] w fun e w' => e = .returned (.string ⟨#[49,46,50,53]⟩) ∧ Below w.heap.size w w' := by
  go_enter Tryd.func19, Tryd.ntmps19
  go_wp2_with (first | (go_at_call 48; refine (fmtu_1 _).mono ?_; rintro e w' ⟨rfl, rfl⟩) | go_in)
  refine wp_loop_rounds 5 ?_
  rw [rounds_succ]
  go_wp2
  rw [rounds_succ]
  go_wp2
  rw [rounds_succ]
  go_wp2
  rw [rounds_succ]
  go_wp2
  rw [rounds_succ]
  go_wp2_with fail
  rw [run_convert_bytes_arg (P := Tryd.prog) (w.alloc (.cells #[.int .u8 50, .int .u8 53, .int .u8 48, .int .u8 48] 69)) 71 5 Tryd.underlying71 Tryd.underlying5 w.heap.size 0 4 4 [50, 53, 48, 48] rfl (by
    intro i hi
    match i, hi with
    | 0, _ => simp
    | 1, _ => simp
    | 2, _ => simp
    | 3, _ => simp) 9 Tryd.underlying9]
  go_wp2_with fail
  refine (trim_2500 _).mono ?_
  rintro e w' ⟨rfl, rfl⟩
  go_wp2_with fail
  go_ret
  exact ⟨rfl, (Below.refl _ _).alloc (by simp) _⟩

theorem mul_b (a b : Int) (ha : InI a) (hb : InI b) (w : World) :
    Calls Tryd.prog 25 #[.int .i64 a, .int .i64 b] w fun e w' => e = .returned (.tuple #[.int .i64 (resV (mulZ a b)), .bool (resB (mulZ a b))]) ∧ Below w.heap.size w w' := by
  refine (mul_any a b ha hb w).mono ?_
  rintro e w1 ⟨he, k, rfl⟩
  exact ⟨he, below_drewN w k⟩
theorem dmean_b (b off cap : Nat) (zs : List Int) (hz : ∀ z ∈ zs, InI z) (hl : zs.length ≤ 4000000000) (h1 : 1 ≤ zs.length) (w : World) (hm : InMem w b off zs) :
    Calls Tryd.prog 15 #[.slice (some ⟨b, off, none⟩) zs.length cap] w fun e w' => e = .returned (.tuple #[.int .i64 (resV (meanZ zs)), .bool (resB (meanZ zs))]) ∧ Below w.heap.size w w' := by
  refine (dmean_any b off cap zs hz hl h1 w hm).mono ?_
  rintro e w1 ⟨he, k, rfl⟩
  exact ⟨he, below_drewN w k⟩
theorem known_mul : resV (mulZ 25000 30000) = 75000 ∧ resB (mulZ 25000 30000) = true := by decide +kernel
theorem known_mean : resV (meanZ [10000, 30000]) = 20000 ∧ resB (meanZ [10000, 30000]) = true := by decide +kernel
set_option maxRecDepth 100000 in
set_option maxHeartbeats 800000 in
theorem known_any (w : World) :
    Calls Tryd.prog 12 #[] w fun e w' => e = .returned (.bool true) ∧ Below w.heap.size w w' := by
  go_enter Tryd.func12, Tryd.ntmps12
  go_wp2_with fail
  refine (mul_b 25000 30000 (by unfold InI; omega) (by unfold InI; omega) _).mono ?_
  rintro e w1 ⟨rfl, hB1⟩
  rw [known_mul.1, known_mul.2]
  go_wp2_with fail
  refine (dmean_b _ 0 2 [10000, 30000] (by simp [InI]) (by simp) (by simp) _ ⟨by simp, ?_⟩).mono ?_
  · intro i hi
    match i, hi with
    | 0, _ => simp
    | 1, _ => simp
  rintro e w2 ⟨rfl, hB2⟩
  rw [known_mean.1, known_mean.2]
  go_wp2_with fail
  refine (format_12500 _).mono ?_
  rintro e w3 ⟨rfl, hB⟩
  go_wp2_with fail
  go_ret
  exact ⟨rfl, Below.next (Below.next (hB1.alloc hB1.size _) hB2) hB⟩
end Go.Proofs.YticjclllhjehfaaDoor
