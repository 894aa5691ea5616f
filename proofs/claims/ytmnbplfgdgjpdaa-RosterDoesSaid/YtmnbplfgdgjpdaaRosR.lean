/- Contracts of the specification's roster, and of Copy. -/
import Derived.Test.YtmnbplfgdgjpdaaLawRosterKeeps
import Derived.Laws.MakeOwn
import Derived.Laws.CopyOwn
import Derived.Deep.WholeRow
namespace Go.Proofs.Ytmnbplfgdgjpdaa
open Go.RowKit
/-- Blocks p, g hold a specification's roster of n users. -/
def RefR (w : World) (p g : Nat) (n : Nat) (S : Nat → Bool) : Prop :=
  p < w.heap.size ∧ g < w.heap.size ∧ w.cell? ⟨p, 0, none⟩ = some (.slice (some ⟨g, 0, none⟩) n n) ∧ (∀ i, i < n → w.cell? ⟨g, i, none⟩ = some (.bool (S i))) ∧ ∀ o, w.frozen? ⟨g, o, none⟩ = false
theorem RefR.later {w w' : World} {p g n : Nat} {S : Nat → Bool} (h : RefR w p g n S) (hB : Below w.heap.size w w') : RefR w' p g n S := by
  obtain ⟨h0, h0', h1, h2, h3⟩ := h
  obtain ⟨hc, hf⟩ := bcell hB
  have hz := hB.size
  exact ⟨by omega, by omega, by rw [hc _ _ h0]; exact h1, fun i hi => by rw [hc _ _ h0']; exact h2 i hi, fun o => by rw [hf _ _ h0']; exact h3 o⟩
theorem RefR.set {w : World} {p g n : Nat} {S : Nat → Bool} (h : RefR w p g n S) (hpg : p ≠ g) (u : Nat) (hu : u < n) (v : Bool) : RefR (w.setCell ⟨g, u, none⟩ (.bool v)) p g n (updS S u v) := by
  obtain ⟨h0, h0', h1, h2, h3⟩ := h
  refine ⟨by simpa using h0, by simpa using h0', ?_, fun i hi => ?_, fun o => by simpa using h3 o⟩
  · rw [World.cell?_setCell_other _ _ _ _ (by simp)]; exact h1
  · unfold updS
    by_cases hiu : i = u
    · subst hiu
      rw [World.cell?_setCell_same _ _ _ (h2 i hi), if_pos rfl]
    · rw [World.cell?_setCell_other _ _ _ _ (by simp), if_neg hiu]; exact h2 i hi
theorem fnew_bad (n : Int) (h : n < 1 ∨ 64 < n) (w : World) : Calls Try.prog 23 #[.int .i64 n] w fun e w' => e = .returned (.tuple #[.pointer none, .int .i64 3]) ∧ w = w' := by
  rcases h with h | h
  · go_enter Try.func23, Try.ntmps23
    go_wp2_with fail
    go_ret2
    exact ⟨rfl, rfl⟩
  · have h1 : ¬ n < 1 := by omega
    go_enter Try.func23, Try.ntmps23
    go_wp2_with fail
    go_ret2
    exact ⟨rfl, rfl⟩
def mkC (n : Nat) : Array Value := madeCells #[.bool false] (n * 1)
theorem bool_info : (Try.prog.info? 4).map (fun i => (i.zero, i.size, i.bytes)) = some (some (.bool false), 1, 1) := by kernel_rfl
theorem mk_bools (n : Nat) (h2 : n ≤ 64) (w : World) : (Instr.makeSlice 65 (.int .i64 (n : Int)) (.int .i64 (n : Int))).run Try.prog w = .ok (.slice (some ⟨w.heap.size, 0, none⟩) n n) (w.alloc (.cells (mkC n) 4)) := by
  obtain ⟨i0, hi, hz0, hz1, hz2⟩ := info_parts bool_info
  have := run_makeSlice (P := Try.prog) (w := w) 65 4 i0 (.bool false) Try.underlying65 hi hz0 .i64 .i64 (n : Int) (n : Int) (by omega) (Int.le_refl _) (by rw [hz1]; simp; omega) (by rw [hz2]; simp; omega) (by omega)
  rw [hz1] at this
  simpa [mkC, Value.cells] using this
theorem mkC_at (n i : Nat) (h : i < n) : (mkC n)[i]? = some (.bool false) := by
  unfold mkC madeCells
  simp [h, Nat.mod_one]
theorem fnew_ok (n : Nat) (h1 : 1 ≤ n) (h2 : n ≤ 64) (w : World) : Calls Try.prog 23 #[.int .i64 (n : Int)] w fun e w' => e = .returned (.tuple #[.pointer (some ⟨w.heap.size + 1, 0, none⟩), .int .i64 0]) ∧ RefR w' (w.heap.size + 1) w.heap.size n noS ∧ Below w.heap.size w w' := by
  have hmk := mk_bools n h2
  have hat := Lib.hid (mkC_at n)
  generalize mkC n = cs at *
  go_enter Try.func23, Try.ntmps23
  go_wp2_with fail
  go_ret2
  refine ⟨rfl, ⟨by simp, by simp; omega, by simp, fun i hi => ?_, fun o => by simp⟩, (below_alloc w _).alloc (by simp) _⟩
  have := hat.out i hi
  simpa [noS] using this
theorem turn_nil (u : Int) (v : Bool) (w : World) : Calls Try.prog 37 #[.pointer none, .int .i64 u, .bool v] w fun e w' => e = .returned (.int .i64 1) ∧ w = w' := by
  go_enter Try.func37, Try.ntmps37
  go_wp2_with fail
  go_ret
  exact ⟨rfl, rfl⟩
theorem turn_range (p g n : Nat) (S : Nat → Bool) (u : Int) (v : Bool) (hu : u < 0 ∨ (n : Int) ≤ u) (w : World) (hr : RefR w p g n S) :
    Calls Try.prog 37 #[.pointer (some ⟨p, 0, none⟩), .int .i64 u, .bool v] w fun e w' => e = .returned (.int .i64 3) ∧ w = w' := by
  obtain ⟨r0, r0', r1, r2, r3⟩ := hr
  clear r2 r3
  rcases Int.lt_or_le u 0 with h | h
  · go_enter Try.func37, Try.ntmps37
    go_wp2_with fail
    go_ret
    exact ⟨rfl, rfl⟩
  · have hn : (n : Int) ≤ u := by omega
    clear hu
    go_enter Try.func37, Try.ntmps37
    go_wp2_with fail
    go_ret
    exact ⟨rfl, rfl⟩
theorem turn_same (p g n : Nat) (S : Nat → Bool) (u : Nat) (v : Bool) (hu : u < n) (w : World) (hr : RefR w p g n S) (hs : S u = v) :
    Calls Try.prog 37 #[.pointer (some ⟨p, 0, none⟩), .int .i64 (u : Int), .bool v] w fun e w' => e = .returned (.int .i64 7) ∧ w = w' := by
  obtain ⟨r0, r0', r1, r2, r3⟩ := hr
  have c1 := r2 u hu
  clear r2 r3
  rw [hs] at c1
  go_enter Try.func37, Try.ntmps37
  go_wp2_with fail
  go_ret
  exact ⟨rfl, rfl⟩
theorem turn_in (p g n : Nat) (S : Nat → Bool) (u : Nat) (v : Bool) (hpg : p ≠ g) (hu : u < n) (w : World) (hr : RefR w p g n S) (hs : S u = !v) :
    Calls Try.prog 37 #[.pointer (some ⟨p, 0, none⟩), .int .i64 (u : Int), .bool v] w fun e w' => e = .returned (.int .i64 0) ∧ RefR w' p g n (updS S u v) ∧ ∀ B, B ≤ g → Below B w w' := by
  have HR := Lib.hid hr
  obtain ⟨r0, r0', r1, r2, r3⟩ := hr
  have c1 := r2 u hu
  have f1 := r3 u
  clear r2 r3
  rw [hs] at c1
  cases v
  · have c2 : w.cell? ⟨g, u, none⟩ = some (.bool true) := c1
    clear c1
    go_enter Try.func37, Try.ntmps37
    go_wp2_with fail
    go_ret
    exact ⟨rfl, HR.out.set hpg u hu false, fun B hB => (Below.refl _ _).setCell hB _⟩
  · have c2 : w.cell? ⟨g, u, none⟩ = some (.bool false) := c1
    clear c1
    go_enter Try.func37, Try.ntmps37
    go_wp2_with fail
    go_ret
    exact ⟨rfl, HR.out.set hpg u hu true, fun B hB => (Below.refl _ _).setCell hB _⟩
theorem flogin_nil (u : Int) (w : World) : Calls Try.prog 30 #[.pointer none, .int .i64 u] w fun e w' => e = .returned (.int .i64 1) ∧ w = w' := by
  go_enter Try.func30, Try.ntmps30
  go_wp2_with fail
  refine (turn_nil _ _ _).mono ?_
  rintro e w' ⟨rfl, rfl⟩
  go_wp2_with fail
  go_ret
  exact ⟨rfl, rfl⟩
theorem flogout_nil (u : Int) (w : World) : Calls Try.prog 28 #[.pointer none, .int .i64 u] w fun e w' => e = .returned (.int .i64 1) ∧ w = w' := by
  go_enter Try.func28, Try.ntmps28
  go_wp2_with fail
  refine (turn_nil _ _ _).mono ?_
  rintro e w' ⟨rfl, rfl⟩
  go_wp2_with fail
  go_ret
  exact ⟨rfl, rfl⟩
theorem fin_nil (w : World) : Calls Try.prog 25 #[.pointer none] w fun e w' => e = .returned (.int .u64 0) ∧ w = w' := by
  go_enter Try.func25, Try.ntmps25
  go_wp2_with fail
  go_loop [3, 4] (fun s i => i = .int .i64 0 ∧ s = .int .u64 0) (fun _ _ => 0)
  case atStart => exact ⟨rfl, rfl⟩
  case round =>
    obtain ⟨rfl, rfl⟩ := hrel
    go_wp2_with fail
    go_ret
    exact ⟨rfl, rfl⟩
theorem bits_add (x y : W64) (h : x &&& y = 0#64) : IntKind.u64.wrap ((x.toNat : Int) + (y.toNat : Int)) = ((x ||| y).toNat : Int) := by
  rw [← BitVec.add_eq_or_of_and_eq_zero x y h, BitVec.toNat_add]
  simp [IntKind.wrap, IntKind.bits, IntKind.signed]
theorem memL_apart (S : Nat → Bool) (k : Nat) : orL (memL S k) &&& (1#64 <<< k) = 0#64 := by
  apply BitVec.eq_of_getLsbD_eq
  intro i hi
  rw [BitVec.getLsbD_and, getLsb_memL S i hi, getLsb_bit _ _ hi]
  by_cases h : i = k
  · subst h; simp
  · simp [h]
theorem memL_all (S : Nat → Bool) (n : Nat) (hS : ∀ i, n ≤ i → S i = false) : orL (memL S n) = orL (memL S 64) := by
  apply BitVec.eq_of_getLsbD_eq
  intro i hi
  rw [getLsb_memL S i hi, getLsb_memL S i hi]
  by_cases h : i < n
  · simp [h, hi]
  · simp [h, hS i (by omega)]
set_option maxHeartbeats 800000 in
theorem fin_any (p g n : Nat) (S : Nat → Bool) (h64 : n ≤ 64) (hS : ∀ i, n ≤ i → S i = false) (w : World) (hr : RefR w p g n S) :
    Calls Try.prog 25 #[.pointer (some ⟨p, 0, none⟩)] w fun e w' => e = .returned (.int .u64 ((orL (memL S 64)).toNat : Int)) ∧ Below w.heap.size w w' := by
  have HE := Lib.hid (memL_all S n hS)
  clear hS
  obtain ⟨r0, r0', r1, r2, r3⟩ := hr
  have H2 := Lib.hid r2
  clear r2 r3
  go_enter Try.func25, Try.ntmps25
  go_wp2_with fail
  go_loop [3, 4] (fun s i => ∃ k : Nat, k ≤ n ∧ i = .int .i64 k ∧ s = .int .u64 ((orL (memL S k)).toNat : Int)) (fun _ i => n - (intOf i).toNat)
  case atStart => exact ⟨0, Nat.zero_le _, rfl, rfl⟩
  case round =>
    obtain ⟨k, hk, rfl, rfl⟩ := hrel
    by_cases hlt : k < n
    · have c1 := H2.out k hlt
      cases hs : S k
      · rw [hs] at c1
        have HN : Hid (orL (memL S (k + 1)) = orL (memL S k)) := by unfold Hid; rw [memL_succ, if_neg (by rw [hs]; decide)]
        generalize orL (memL S k) = s at *
        clear hs
        go_wp2_with fail
        go_round
        case rel => exact ⟨k + 1, by omega, by go_num, by rw [HN.out]⟩
        case measure => simp [intOf]; omega
      · rw [hs] at c1
        have HN : Hid (IntKind.u64.wrap (((orL (memL S k)).toNat : Int) + ((1#64 <<< k).toNat : Int)) = ((orL (memL S (k + 1))).toNat : Int)) := by
          unfold Hid; rw [memL_succ, if_pos hs, orL_snoc, bits_add _ _ (memL_apart S k)]
        generalize ((orL (memL S k)).toNat : Int) = s at *
        clear hs
        go_wp2_with fail
        go_round
        case rel => exact ⟨k + 1, by omega, by go_num, by rw [← HN.out, ← shl_one]⟩
        case measure => simp [intOf]; omega
    · obtain rfl : k = n := by omega
      go_wp2_with fail
      go_ret
      exact ⟨by rw [HE.out]; rfl, Below.refl _ _⟩
theorem load_ros {w : World} {b : Nat} {n : Int} {S : Nat → Bool} (h : Ros w b n S) : w.rangeAt b 0 (.int .i64 n :: seatL S) := by
  intro j v hv
  cases j with
  | zero => simp at hv; subst hv; exact h.2.1
  | succ j =>
    simp only [List.getElem?_cons_succ] at hv
    have := seats_range h j v hv
    rw [Nat.zero_add, Nat.add_comm]; exact this
theorem info64r : (Try.prog.info? 64).map (·.size) = some 65 := by kernel_rfl
theorem Z65_size : Z65.size = 65 := by unfold Z65; simp
theorem Ros.made (w : World) (n : Int) (S : Nat → Bool) : Ros (w.alloc (.cells (Value.int .i64 n :: seatL S).toArray 64)) w.heap.size n S := by
  have h1 := seatL_at S
  generalize seatL S = c at *
  refine ⟨by simp, by simp, fun i hi => ?_, fun o => by simp⟩
  rw [Nat.add_comm]
  simpa using h1 i hi
theorem ros_one (n : Int) (S : Nat → Bool) : ((Value.int .i64 n :: seatL S).toArray.all (·.oneCell')) = true := by
  simp [seatL, Value.oneCell']
theorem alloc_ros {ρ : Operand → Value} (w : World) {o : Oper} (ho : o.op = .alloc 64 := by rfl) : (execOp ρ o).run Try.prog w = .ok (.value (.pointer (some ⟨w.heap.size, 0, none⟩))) (w.alloc (.cells Z65 64)) := by
  unfold execOp
  rw [ho]
  have hz := zvRos
  simp [Instr.alloc, hz, newVar, newRow, Value.cells]
set_option maxHeartbeats 800000 in
theorem copy_any (b : Nat) (n : Int) (S : Nat → Bool) (w : World) (hr : Ros w b n S) :
    Calls Try.prog 26 #[.pointer (some ⟨b, 0, none⟩)] w fun e w' => e = .returned (.pointer (some ⟨w.heap.size, 0, none⟩)) ∧ Ros w' w.heap.size n S ∧ Below w.heap.size w w' := by
  have hrg := Lib.hid (load_ros hr)
  have hmade := Lib.hid (Ros.made w n S)
  have hone := Lib.hid (ros_one n S)
  have hcl : (Value.int .i64 n :: seatL S).length = 65 := by simp [seatL_length]
  have HCL := Lib.hid hcl
  obtain ⟨r0, _⟩ := hr
  generalize (Value.int .i64 n :: seatL S) = cs at *
  clear hcl
  go_enter Try.func26, Try.ntmps26
  go_upto_region 3 with fail
  refine wp_region_lit ?_
  refine runTo rfl _ rfl (.pointer (some ⟨b, 0, none⟩)) w (by rfl) ?_
  refine runTo rfl _ rfl (.pointer (some ⟨b, 0, none⟩)) w (by rfl) ?_
  refine wpList_load_mid rfl 64 _ rfl b 0 rfl cs _ hrg.out Try.underlying64 rfl (by rw [HCL.out]; exact info64r) ?_
  refine runTo rfl _ rfl (.pointer (some ⟨w.heap.size, 0, none⟩)) (w.alloc (.cells Z65 64)) (alloc_ros w) ?_
  refine wpList_store_row rfl 64 _ _ rfl w.heap.size cs.toArray rfl rfl 64 Z65 (heap_alloc_new w _) (by rw [List.size_toArray, HCL.out]; exact info64r) (Z65_size.trans (by rw [List.size_toArray, HCL.out])) hone.out ?_
  rw [World.setRow_alloc_new]
  go_wp2_with fail
  go_ret
  exact ⟨rfl, hmade.out, below_alloc w _⟩
end Go.Proofs.Ytmnbplfgdgjpdaa
