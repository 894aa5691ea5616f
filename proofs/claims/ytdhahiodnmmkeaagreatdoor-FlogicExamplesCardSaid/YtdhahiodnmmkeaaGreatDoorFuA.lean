/- The reference's helpers for lists of values: how many, valid, copies, equal. -/
import Derived.Test.YtdhahiodnmmkeaaGreatDoorFtE
import Derived.Test.YtdhahiodnmmkeaaGreatDoorValR
namespace Go.Proofs.YtdhahiodnmmkeaaGreatDoor.Va
open Go Go.RowKit GM
set_option linter.unusedVariables false
set_option linter.unusedSimpArgs false
/-- How many arguments a function has. -/
def arV (fn : Nat) : Nat × Nat :=
  match fn with
  | 5 => (2, 2)
  | 6 => (2, 2)
  | 7 => (2, 2)
  | 9 => (1, 16)
  | 10 => (1, 16)
  | 11 => (1, 16)
  | 12 => (1, 16)
  | 14 => (1, 16)
  | 15 => (1, 16)
  | 16 => (1, 16)
  | 17 => (1, 16)
  | 18 => (2, 2)
  | 19 => (2, 2)
  | 20 => (2, 3)
  | 21 => (1, 16)
  | 22 => (1, 16)
  | 23 => (1, 16)
  | 25 => (2, 2)
  | 30 => (2, 16)
  | 32 => (1, 2)
  | 33 => (1, 2)
  | 34 => (3, 3)
  | 38 => (1, 16)
  | 39 => (2, 2)
  | 40 => (2, 2)
  | 41 => (2, 3)
  | 43 => (2, 3)
  | 44 => (2, 2)
  | 45 => (2, 2)
  | _ => (1, 1)
theorem rar_20 (w : World) : Calls Tryz.prog 141 #[.int .u8 20] w fun e w' => e = .returned (.tuple #[.int .i64 2, .int .i64 3]) ∧ Below w.heap.size w w' := by
  go_enter Tryz.func141, Tryz.ntmps141
  go_wp2_with fail
  refine bodyPost_ret (v := .tuple #[.int .i64 2, .int .i64 3]) (by simp [results, Tryz.results141, go_sem]) rfl ⟨rfl, Below.refl _ _⟩
theorem rar_21 (w : World) : Calls Tryz.prog 141 #[.int .u8 21] w fun e w' => e = .returned (.tuple #[.int .i64 1, .int .i64 16]) ∧ Below w.heap.size w w' := by
  go_enter Tryz.func141, Tryz.ntmps141
  go_wp2_with fail
  refine bodyPost_ret (v := .tuple #[.int .i64 1, .int .i64 16]) (by simp [results, Tryz.results141, go_sem]) rfl ⟨rfl, Below.refl _ _⟩
theorem rar_22 (w : World) : Calls Tryz.prog 141 #[.int .u8 22] w fun e w' => e = .returned (.tuple #[.int .i64 1, .int .i64 16]) ∧ Below w.heap.size w w' := by
  go_enter Tryz.func141, Tryz.ntmps141
  go_wp2_with fail
  refine bodyPost_ret (v := .tuple #[.int .i64 1, .int .i64 16]) (by simp [results, Tryz.results141, go_sem]) rfl ⟨rfl, Below.refl _ _⟩
theorem rar_23 (w : World) : Calls Tryz.prog 141 #[.int .u8 23] w fun e w' => e = .returned (.tuple #[.int .i64 1, .int .i64 16]) ∧ Below w.heap.size w w' := by
  go_enter Tryz.func141, Tryz.ntmps141
  go_wp2_with fail
  refine bodyPost_ret (v := .tuple #[.int .i64 1, .int .i64 16]) (by simp [results, Tryz.results141, go_sem]) rfl ⟨rfl, Below.refl _ _⟩
theorem rar_24 (w : World) : Calls Tryz.prog 141 #[.int .u8 24] w fun e w' => e = .returned (.tuple #[.int .i64 1, .int .i64 1]) ∧ Below w.heap.size w w' := by
  go_enter Tryz.func141, Tryz.ntmps141
  go_wp2_with fail
  refine bodyPost_ret (v := .tuple #[.int .i64 1, .int .i64 1]) (by simp [results, Tryz.results141, go_sem]) rfl ⟨rfl, Below.refl _ _⟩
theorem rar_25 (w : World) : Calls Tryz.prog 141 #[.int .u8 25] w fun e w' => e = .returned (.tuple #[.int .i64 2, .int .i64 2]) ∧ Below w.heap.size w w' := by
  go_enter Tryz.func141, Tryz.ntmps141
  go_wp2_with fail
  refine bodyPost_ret (v := .tuple #[.int .i64 2, .int .i64 2]) (by simp [results, Tryz.results141, go_sem]) rfl ⟨rfl, Below.refl _ _⟩
theorem rar_26 (w : World) : Calls Tryz.prog 141 #[.int .u8 26] w fun e w' => e = .returned (.tuple #[.int .i64 1, .int .i64 1]) ∧ Below w.heap.size w w' := by
  go_enter Tryz.func141, Tryz.ntmps141
  go_wp2_with fail
  refine bodyPost_ret (v := .tuple #[.int .i64 1, .int .i64 1]) (by simp [results, Tryz.results141, go_sem]) rfl ⟨rfl, Below.refl _ _⟩
theorem rar_27 (w : World) : Calls Tryz.prog 141 #[.int .u8 27] w fun e w' => e = .returned (.tuple #[.int .i64 1, .int .i64 1]) ∧ Below w.heap.size w w' := by
  go_enter Tryz.func141, Tryz.ntmps141
  go_wp2_with fail
  refine bodyPost_ret (v := .tuple #[.int .i64 1, .int .i64 1]) (by simp [results, Tryz.results141, go_sem]) rfl ⟨rfl, Below.refl _ _⟩
theorem rar_28 (w : World) : Calls Tryz.prog 141 #[.int .u8 28] w fun e w' => e = .returned (.tuple #[.int .i64 1, .int .i64 1]) ∧ Below w.heap.size w w' := by
  go_enter Tryz.func141, Tryz.ntmps141
  go_wp2_with fail
  refine bodyPost_ret (v := .tuple #[.int .i64 1, .int .i64 1]) (by simp [results, Tryz.results141, go_sem]) rfl ⟨rfl, Below.refl _ _⟩
theorem rar_29 (w : World) : Calls Tryz.prog 141 #[.int .u8 29] w fun e w' => e = .returned (.tuple #[.int .i64 1, .int .i64 1]) ∧ Below w.heap.size w w' := by
  go_enter Tryz.func141, Tryz.ntmps141
  go_wp2_with fail
  refine bodyPost_ret (v := .tuple #[.int .i64 1, .int .i64 1]) (by simp [results, Tryz.results141, go_sem]) rfl ⟨rfl, Below.refl _ _⟩
theorem rar_30 (w : World) : Calls Tryz.prog 141 #[.int .u8 30] w fun e w' => e = .returned (.tuple #[.int .i64 2, .int .i64 16]) ∧ Below w.heap.size w w' := by
  go_enter Tryz.func141, Tryz.ntmps141
  go_wp2_with fail
  refine bodyPost_ret (v := .tuple #[.int .i64 2, .int .i64 16]) (by simp [results, Tryz.results141, go_sem]) rfl ⟨rfl, Below.refl _ _⟩
theorem rar_logic (fn : Nat) (h1 : 20 ≤ fn) (h2 : fn ≤ 30) (w : World) : Calls Tryz.prog 141 #[.int .u8 (fn : Int)] w fun e w' => e = .returned (.tuple #[.int .i64 ((arV fn).1 : Int), .int .i64 ((arV fn).2 : Int)]) ∧ Below w.heap.size w w' := by
  obtain rfl | rfl | rfl | rfl | rfl | rfl | rfl | rfl | rfl | rfl | rfl := (by omega : fn = 20 ∨ fn = 21 ∨ fn = 22 ∨ fn = 23 ∨ fn = 24 ∨ fn = 25 ∨ fn = 26 ∨ fn = 27 ∨ fn = 28 ∨ fn = 29 ∨ fn = 30)
  · exact rar_20 w
  · exact rar_21 w
  · exact rar_22 w
  · exact rar_23 w
  · exact rar_24 w
  · exact rar_25 w
  · exact rar_26 w
  · exact rar_27 w
  · exact rar_28 w
  · exact rar_29 w
  · exact rar_30 w
theorem arV_le (fn : Nat) : (arV fn).2 ≤ 16 := by
  unfold arV
  split <;> decide
theorem arV_one (fn : Nat) : 1 ≤ (arV fn).1 := by
  unfold arV
  split <;> decide
theorem rcount_any (fn n : Nat) (hn : n ≤ 1000000) (w : World) (har : ∀ W : World, Calls Tryz.prog 141 #[.int .u8 (fn : Int)] W fun e w' => e = .returned (.tuple #[.int .i64 ((arV fn).1 : Int), .int .i64 ((arV fn).2 : Int)]) ∧ Below W.heap.size W w') :
    Calls Tryz.prog 76 #[.int .u8 (fn : Int), .int .i64 (n : Int)] w fun e w' => e = .returned (.bool (decide ((arV fn).1 ≤ n ∧ n ≤ (arV fn).2))) ∧ Below w.heap.size w w' := by
  have HAR := Lib.hid har
  clear har
  have hm := arV_le fn
  generalize (arV fn).1 = p at *
  generalize (arV fn).2 = q at *
  go_enter Tryz.func76, Tryz.ntmps76
  go_wp2_with fail
  refine (HAR.out _).mono ?_
  rintro e w1 ⟨rfl, hB⟩
  have HB := Lib.hid hB
  clear hB HAR
  by_cases h1 : p ≤ n
  · have d1 : decide ((p : Int) ≤ (n : Int)) = true := by simp; exact h1
    by_cases h2 : n ≤ q
    · have d2 : decide ((n : Int) ≤ (q : Int)) = true := by simp; exact h2
      go_wp2_with fail
      refine bodyPost_ret (v := .bool true) (by simp [results, Tryz.results76, go_sem]) rfl ⟨by rw [decide_eq_true (show p ≤ n ∧ n ≤ q from ⟨h1, h2⟩)], HB.out⟩
    · have d2 : decide ((n : Int) ≤ (q : Int)) = false := by simp; omega
      go_wp2_with fail
      refine bodyPost_ret (v := .bool false) (by simp [results, Tryz.results76, go_sem]) rfl ⟨by rw [decide_eq_false (show ¬ (p ≤ n ∧ n ≤ q) from fun h => h2 h.2)], HB.out⟩
  · have d1 : decide ((p : Int) ≤ (n : Int)) = false := by simp; omega
    go_wp2_with fail
    refine bodyPost_ret (v := .bool false) (by simp [results, Tryz.results76, go_sem]) rfl ⟨by rw [decide_eq_false (show ¬ (p ≤ n ∧ n ≤ q) from fun h => h1 h.1)], HB.out⟩
theorem isV_at {w : World} {a : Option Addr} {n : Nat} {L : List V3} (h : IsV w a n L) {k : Nat} (hkl : k < L.length) : ∃ b off, a = some ⟨b, off, none⟩ ∧ b < w.heap.size ∧ w.cell? ⟨b, off + k * 3, none⟩ = some (.int .u8 (L[k].1 : Int)) ∧ w.cell? ⟨b, off + k * 3 + 1, none⟩ = some (.int .i64 L[k].2.1) ∧ w.cell? ⟨b, off + k * 3 + 2, none⟩ = some (.string L[k].2.2) := by
  obtain ⟨b, off, rfl, hrow⟩ := h.2 (by have := h.1; omega)
  refine ⟨b, off, rfl, hrow.1, ?_, hrow.2 k hkl 1 _ rfl, hrow.2 k hkl 2 _ rfl⟩
  have := hrow.2 k hkl 0 _ rfl; rwa [Nat.add_zero] at this
/-- All values of a list are valid. -/
def okL (L : List V3) : Bool := L.all (fun v => decide (vE v.1 v.2.1 v.2.2.data.toList = 0))
theorem okL_step {L : List V3} {k : Nat} (hkl : k < L.length) (hk : okL (L.take k) = true) : okL (L.take (k + 1)) = decide (vE L[k].1 L[k].2.1 L[k].2.2.data.toList = 0) := by
  unfold okL at *
  rw [List.take_succ_eq_append_getElem hkl, List.all_append, hk]
  simp
theorem okL_bad {L : List V3} {k : Nat} (h : okL (L.take (k + 1)) = false) : okL L = false := by
  unfold okL at *
  rw [← List.take_append_drop (k + 1) L, List.all_append, h]
  rfl
set_option maxHeartbeats 3200000 in
theorem rvalid_any (a : Option Addr) (n cap : Nat) (L : List V3) (hn : n ≤ 1000) (w : World) (hL : IsV w a n L) (hv : ∀ v ∈ L, v.2.2.size ≤ maxLen ∧ leastI ≤ v.2.1) :
    Calls Tryz.prog 65 #[.slice a n cap] w fun e w' => e = .returned (.bool (okL L)) ∧ Below w.heap.size w w' := by
  have HL := Lib.hid hL
  have HNL := Lib.hid hL.1
  have HV : Hid (∀ v ∈ L, ∀ W : World, Calls Tryz.prog 43 #[.agg #[.int .u8 (v.1 : Int), .int .i64 v.2.1, .string v.2.2]] W fun e w' => e = .returned (.int .i64 (vE v.1 v.2.1 v.2.2.data.toList)) ∧ Below W.heap.size W w') := fun v hvm W => rvcheck_any v.1 v.2.1 v.2.2 (hv v hvm).1 (hv v hvm).2 W
  clear hL hv
  go_enter Tryz.func65, Tryz.ntmps65
  go_wp2_with fail
  go_loopw [3] (fun i wr => ∃ k : Nat, k ≤ n ∧ i = .int .i64 (k : Int) ∧ Hid (Below w.heap.size w wr) ∧ Hid (okL (L.take k) = true)) (fun i _ => n - (intOf i).toNat)
  case atStart => exact ⟨0, Nat.zero_le _, rfl, Below.refl _ _, rfl⟩
  case round =>
    obtain ⟨k, hk, rfl, HB, HOK⟩ := hrel
    by_cases hlt : k < n
    · have hkl : k < L.length := by rw [HNL.out]; exact hlt
      have HVk := Lib.hid (HV.out L[k] (List.getElem_mem hkl))
      obtain ⟨b, off, rfl, hbl, c1, c2, c3⟩ := isV_at (IsOf.later HL.out HB.out) hkl
      have hst := okL_step hkl HOK.out
      have HBAD := Lib.hid (fun h => okL_bad (L := L) (k := k) h)
      have hv02 : vE L[k].1 L[k].2.1 L[k].2.2.data.toList = 0 ∨ vE L[k].1 L[k].2.1 L[k].2.2.data.toList = 2 := by unfold vE; split <;> simp
      generalize L[k] = vv at *
      obtain ⟨kd, nm, tx⟩ := vv
      dsimp only at c1 c2 c3 HVk hst hv02
      have HST := Lib.hid hst
      clear hst
      go_wp2_with fail
      refine (HVk.out _).mono ?_
      rintro e w2 ⟨rfl, hB2⟩
      have HB2 := Lib.hid (vnext HB.out hB2)
      clear hB2 c1 c2 c3 hbl HVk
      rcases hv02 with h0 | h2
      · have HTN : Hid (okL (L.take (k + 1)) = true) := by unfold Hid; rw [HST.out, h0]; rfl
        rw [h0]
        clear h0
        go_wp2_with fail
        exact ⟨⟨k + 1, by omega, by go_num, HB2.out, HTN.out⟩, by simp [intOf]; omega⟩
      · have HTN : Hid (okL L = false) := HBAD.out (by rw [HST.out, h2]; rfl)
        rw [h2]
        clear h2
        go_wp2_with fail
        refine bodyPost_ret (v := .bool false) (by simp [results, Tryz.results65, go_sem]) rfl ⟨by rw [HTN.out], HB2.out⟩
    · have HTN : Hid (okL L = true) := by
        unfold Hid
        have := HOK.out
        rwa [List.take_of_length_le (by rw [HNL.out]; omega)] at this
      go_wp2_with fail
      refine bodyPost_ret (v := .bool true) (by simp [results, Tryz.results65, go_sem]) rfl ⟨by rw [HTN.out], HB.out⟩
end Go.Proofs.YtdhahiodnmmkeaaGreatDoor.Va
