/- The reference's conversion of arguments. -/
import Derived.Test.YtfjefanhkbcfgaaGreatDoorFuD
import Derived.Test.YtfjefanhkbcfgaaGreatDoorValYn
namespace Go.Proofs.YtfjefanhkbcfgaaGreatDoor.Va
open Go Go.RowKit GM
set_option linter.unusedVariables false
set_option linter.unusedSimpArgs false
theorem wh_31_0 (w : World) : Calls Tryz.prog 117 #[.int .u8 31, .int .i64 0] w fun e w' => e = .returned (.bool false) ∧ Below w.heap.size w w' := by
  go_enter Tryz.func117, Tryz.ntmps117
  go_wp2_with fail
  go_ret
  exact ⟨rfl, Below.refl _ _⟩
theorem wh_31 (k : Nat) (hk : k < (⟨#[115]⟩ : ByteArray).size) (W : World) : Calls Tryz.prog 117 #[.int .u8 31, .int .i64 (k : Int)] W fun e w' => e = .returned (.bool (decide ((⟨#[115]⟩ : ByteArray)[k] = 110))) ∧ Below W.heap.size W w' := by
  have hk2 : k < 1 := hk
  obtain rfl := (by omega : k = 0)
  · exact wh_31_0 W
theorem wh_32_0 (w : World) : Calls Tryz.prog 117 #[.int .u8 32, .int .i64 0] w fun e w' => e = .returned (.bool false) ∧ Below w.heap.size w w' := by
  go_enter Tryz.func117, Tryz.ntmps117
  go_wp2_with fail
  go_ret
  exact ⟨rfl, Below.refl _ _⟩
theorem wh_32_1 (w : World) : Calls Tryz.prog 117 #[.int .u8 32, .int .i64 1] w fun e w' => e = .returned (.bool true) ∧ Below w.heap.size w w' := by
  go_enter Tryz.func117, Tryz.ntmps117
  go_wp2_with fail
  go_ret
  exact ⟨rfl, Below.refl _ _⟩
theorem wh_32 (k : Nat) (hk : k < (⟨#[115, 110]⟩ : ByteArray).size) (W : World) : Calls Tryz.prog 117 #[.int .u8 32, .int .i64 (k : Int)] W fun e w' => e = .returned (.bool (decide ((⟨#[115, 110]⟩ : ByteArray)[k] = 110))) ∧ Below W.heap.size W w' := by
  have hk2 : k < 2 := hk
  obtain rfl | rfl := (by omega : k = 0 ∨ k = 1)
  · exact wh_32_0 W
  · exact wh_32_1 W
theorem wh_33_0 (w : World) : Calls Tryz.prog 117 #[.int .u8 33, .int .i64 0] w fun e w' => e = .returned (.bool false) ∧ Below w.heap.size w w' := by
  go_enter Tryz.func117, Tryz.ntmps117
  go_wp2_with fail
  go_ret
  exact ⟨rfl, Below.refl _ _⟩
theorem wh_33_1 (w : World) : Calls Tryz.prog 117 #[.int .u8 33, .int .i64 1] w fun e w' => e = .returned (.bool true) ∧ Below w.heap.size w w' := by
  go_enter Tryz.func117, Tryz.ntmps117
  go_wp2_with fail
  go_ret
  exact ⟨rfl, Below.refl _ _⟩
theorem wh_33 (k : Nat) (hk : k < (⟨#[115, 110]⟩ : ByteArray).size) (W : World) : Calls Tryz.prog 117 #[.int .u8 33, .int .i64 (k : Int)] W fun e w' => e = .returned (.bool (decide ((⟨#[115, 110]⟩ : ByteArray)[k] = 110))) ∧ Below W.heap.size W w' := by
  have hk2 : k < 2 := hk
  obtain rfl | rfl := (by omega : k = 0 ∨ k = 1)
  · exact wh_33_0 W
  · exact wh_33_1 W
theorem wh_34_0 (w : World) : Calls Tryz.prog 117 #[.int .u8 34, .int .i64 0] w fun e w' => e = .returned (.bool false) ∧ Below w.heap.size w w' := by
  go_enter Tryz.func117, Tryz.ntmps117
  go_wp2_with fail
  go_ret
  exact ⟨rfl, Below.refl _ _⟩
theorem wh_34_1 (w : World) : Calls Tryz.prog 117 #[.int .u8 34, .int .i64 1] w fun e w' => e = .returned (.bool true) ∧ Below w.heap.size w w' := by
  go_enter Tryz.func117, Tryz.ntmps117
  go_wp2_with fail
  go_ret
  exact ⟨rfl, Below.refl _ _⟩
theorem wh_34_2 (w : World) : Calls Tryz.prog 117 #[.int .u8 34, .int .i64 2] w fun e w' => e = .returned (.bool true) ∧ Below w.heap.size w w' := by
  go_enter Tryz.func117, Tryz.ntmps117
  go_wp2_with fail
  go_ret
  exact ⟨rfl, Below.refl _ _⟩
theorem wh_34 (k : Nat) (hk : k < (⟨#[115, 110, 110]⟩ : ByteArray).size) (W : World) : Calls Tryz.prog 117 #[.int .u8 34, .int .i64 (k : Int)] W fun e w' => e = .returned (.bool (decide ((⟨#[115, 110, 110]⟩ : ByteArray)[k] = 110))) ∧ Below W.heap.size W w' := by
  have hk2 : k < 3 := hk
  obtain rfl | rfl | rfl := (by omega : k = 0 ∨ k = 1 ∨ k = 2)
  · exact wh_34_0 W
  · exact wh_34_1 W
  · exact wh_34_2 W
theorem wh_35_0 (w : World) : Calls Tryz.prog 117 #[.int .u8 35, .int .i64 0] w fun e w' => e = .returned (.bool false) ∧ Below w.heap.size w w' := by
  go_enter Tryz.func117, Tryz.ntmps117
  go_wp2_with fail
  go_ret
  exact ⟨rfl, Below.refl _ _⟩
theorem wh_35 (k : Nat) (hk : k < (⟨#[115]⟩ : ByteArray).size) (W : World) : Calls Tryz.prog 117 #[.int .u8 35, .int .i64 (k : Int)] W fun e w' => e = .returned (.bool (decide ((⟨#[115]⟩ : ByteArray)[k] = 110))) ∧ Below W.heap.size W w' := by
  have hk2 : k < 1 := hk
  obtain rfl := (by omega : k = 0)
  · exact wh_35_0 W
theorem wh_36_0 (w : World) : Calls Tryz.prog 117 #[.int .u8 36, .int .i64 0] w fun e w' => e = .returned (.bool false) ∧ Below w.heap.size w w' := by
  go_enter Tryz.func117, Tryz.ntmps117
  go_wp2_with fail
  go_ret
  exact ⟨rfl, Below.refl _ _⟩
theorem wh_36 (k : Nat) (hk : k < (⟨#[115]⟩ : ByteArray).size) (W : World) : Calls Tryz.prog 117 #[.int .u8 36, .int .i64 (k : Int)] W fun e w' => e = .returned (.bool (decide ((⟨#[115]⟩ : ByteArray)[k] = 110))) ∧ Below W.heap.size W w' := by
  have hk2 : k < 1 := hk
  obtain rfl := (by omega : k = 0)
  · exact wh_36_0 W
theorem wh_37_0 (w : World) : Calls Tryz.prog 117 #[.int .u8 37, .int .i64 0] w fun e w' => e = .returned (.bool false) ∧ Below w.heap.size w w' := by
  go_enter Tryz.func117, Tryz.ntmps117
  go_wp2_with fail
  go_ret
  exact ⟨rfl, Below.refl _ _⟩
theorem wh_37 (k : Nat) (hk : k < (⟨#[115]⟩ : ByteArray).size) (W : World) : Calls Tryz.prog 117 #[.int .u8 37, .int .i64 (k : Int)] W fun e w' => e = .returned (.bool (decide ((⟨#[115]⟩ : ByteArray)[k] = 110))) ∧ Below W.heap.size W w' := by
  have hk2 : k < 1 := hk
  obtain rfl := (by omega : k = 0)
  · exact wh_37_0 W
theorem wh_38_0 (w : World) : Calls Tryz.prog 117 #[.int .u8 38, .int .i64 0] w fun e w' => e = .returned (.bool false) ∧ Below w.heap.size w w' := by
  go_enter Tryz.func117, Tryz.ntmps117
  go_wp2_with fail
  go_ret
  exact ⟨rfl, Below.refl _ _⟩
theorem wh_38_1 (w : World) : Calls Tryz.prog 117 #[.int .u8 38, .int .i64 1] w fun e w' => e = .returned (.bool false) ∧ Below w.heap.size w w' := by
  go_enter Tryz.func117, Tryz.ntmps117
  go_wp2_with fail
  go_ret
  exact ⟨rfl, Below.refl _ _⟩
theorem wh_38_2 (w : World) : Calls Tryz.prog 117 #[.int .u8 38, .int .i64 2] w fun e w' => e = .returned (.bool false) ∧ Below w.heap.size w w' := by
  go_enter Tryz.func117, Tryz.ntmps117
  go_wp2_with fail
  go_ret
  exact ⟨rfl, Below.refl _ _⟩
theorem wh_38_3 (w : World) : Calls Tryz.prog 117 #[.int .u8 38, .int .i64 3] w fun e w' => e = .returned (.bool false) ∧ Below w.heap.size w w' := by
  go_enter Tryz.func117, Tryz.ntmps117
  go_wp2_with fail
  go_ret
  exact ⟨rfl, Below.refl _ _⟩
theorem wh_38_4 (w : World) : Calls Tryz.prog 117 #[.int .u8 38, .int .i64 4] w fun e w' => e = .returned (.bool false) ∧ Below w.heap.size w w' := by
  go_enter Tryz.func117, Tryz.ntmps117
  go_wp2_with fail
  go_ret
  exact ⟨rfl, Below.refl _ _⟩
theorem wh_38_5 (w : World) : Calls Tryz.prog 117 #[.int .u8 38, .int .i64 5] w fun e w' => e = .returned (.bool false) ∧ Below w.heap.size w w' := by
  go_enter Tryz.func117, Tryz.ntmps117
  go_wp2_with fail
  go_ret
  exact ⟨rfl, Below.refl _ _⟩
theorem wh_38_6 (w : World) : Calls Tryz.prog 117 #[.int .u8 38, .int .i64 6] w fun e w' => e = .returned (.bool false) ∧ Below w.heap.size w w' := by
  go_enter Tryz.func117, Tryz.ntmps117
  go_wp2_with fail
  go_ret
  exact ⟨rfl, Below.refl _ _⟩
theorem wh_38_7 (w : World) : Calls Tryz.prog 117 #[.int .u8 38, .int .i64 7] w fun e w' => e = .returned (.bool false) ∧ Below w.heap.size w w' := by
  go_enter Tryz.func117, Tryz.ntmps117
  go_wp2_with fail
  go_ret
  exact ⟨rfl, Below.refl _ _⟩
theorem wh_38_8 (w : World) : Calls Tryz.prog 117 #[.int .u8 38, .int .i64 8] w fun e w' => e = .returned (.bool false) ∧ Below w.heap.size w w' := by
  go_enter Tryz.func117, Tryz.ntmps117
  go_wp2_with fail
  go_ret
  exact ⟨rfl, Below.refl _ _⟩
theorem wh_38_9 (w : World) : Calls Tryz.prog 117 #[.int .u8 38, .int .i64 9] w fun e w' => e = .returned (.bool false) ∧ Below w.heap.size w w' := by
  go_enter Tryz.func117, Tryz.ntmps117
  go_wp2_with fail
  go_ret
  exact ⟨rfl, Below.refl _ _⟩
theorem wh_38_10 (w : World) : Calls Tryz.prog 117 #[.int .u8 38, .int .i64 10] w fun e w' => e = .returned (.bool false) ∧ Below w.heap.size w w' := by
  go_enter Tryz.func117, Tryz.ntmps117
  go_wp2_with fail
  go_ret
  exact ⟨rfl, Below.refl _ _⟩
theorem wh_38_11 (w : World) : Calls Tryz.prog 117 #[.int .u8 38, .int .i64 11] w fun e w' => e = .returned (.bool false) ∧ Below w.heap.size w w' := by
  go_enter Tryz.func117, Tryz.ntmps117
  go_wp2_with fail
  go_ret
  exact ⟨rfl, Below.refl _ _⟩
theorem wh_38_12 (w : World) : Calls Tryz.prog 117 #[.int .u8 38, .int .i64 12] w fun e w' => e = .returned (.bool false) ∧ Below w.heap.size w w' := by
  go_enter Tryz.func117, Tryz.ntmps117
  go_wp2_with fail
  go_ret
  exact ⟨rfl, Below.refl _ _⟩
theorem wh_38_13 (w : World) : Calls Tryz.prog 117 #[.int .u8 38, .int .i64 13] w fun e w' => e = .returned (.bool false) ∧ Below w.heap.size w w' := by
  go_enter Tryz.func117, Tryz.ntmps117
  go_wp2_with fail
  go_ret
  exact ⟨rfl, Below.refl _ _⟩
theorem wh_38_14 (w : World) : Calls Tryz.prog 117 #[.int .u8 38, .int .i64 14] w fun e w' => e = .returned (.bool false) ∧ Below w.heap.size w w' := by
  go_enter Tryz.func117, Tryz.ntmps117
  go_wp2_with fail
  go_ret
  exact ⟨rfl, Below.refl _ _⟩
theorem wh_38_15 (w : World) : Calls Tryz.prog 117 #[.int .u8 38, .int .i64 15] w fun e w' => e = .returned (.bool false) ∧ Below w.heap.size w w' := by
  go_enter Tryz.func117, Tryz.ntmps117
  go_wp2_with fail
  go_ret
  exact ⟨rfl, Below.refl _ _⟩
theorem wh_38 (k : Nat) (hk : k < (⟨#[115, 115, 115, 115, 115, 115, 115, 115, 115, 115, 115, 115, 115, 115, 115, 115]⟩ : ByteArray).size) (W : World) : Calls Tryz.prog 117 #[.int .u8 38, .int .i64 (k : Int)] W fun e w' => e = .returned (.bool (decide ((⟨#[115, 115, 115, 115, 115, 115, 115, 115, 115, 115, 115, 115, 115, 115, 115, 115]⟩ : ByteArray)[k] = 110))) ∧ Below W.heap.size W w' := by
  have hk2 : k < 16 := hk
  obtain rfl | rfl | rfl | rfl | rfl | rfl | rfl | rfl | rfl | rfl | rfl | rfl | rfl | rfl | rfl | rfl := (by omega : k = 0 ∨ k = 1 ∨ k = 2 ∨ k = 3 ∨ k = 4 ∨ k = 5 ∨ k = 6 ∨ k = 7 ∨ k = 8 ∨ k = 9 ∨ k = 10 ∨ k = 11 ∨ k = 12 ∨ k = 13 ∨ k = 14 ∨ k = 15)
  · exact wh_38_0 W
  · exact wh_38_1 W
  · exact wh_38_2 W
  · exact wh_38_3 W
  · exact wh_38_4 W
  · exact wh_38_5 W
  · exact wh_38_6 W
  · exact wh_38_7 W
  · exact wh_38_8 W
  · exact wh_38_9 W
  · exact wh_38_10 W
  · exact wh_38_11 W
  · exact wh_38_12 W
  · exact wh_38_13 W
  · exact wh_38_14 W
  · exact wh_38_15 W
theorem wh_39_0 (w : World) : Calls Tryz.prog 117 #[.int .u8 39, .int .i64 0] w fun e w' => e = .returned (.bool false) ∧ Below w.heap.size w w' := by
  go_enter Tryz.func117, Tryz.ntmps117
  go_wp2_with fail
  go_ret
  exact ⟨rfl, Below.refl _ _⟩
theorem wh_39_1 (w : World) : Calls Tryz.prog 117 #[.int .u8 39, .int .i64 1] w fun e w' => e = .returned (.bool true) ∧ Below w.heap.size w w' := by
  go_enter Tryz.func117, Tryz.ntmps117
  go_wp2_with fail
  go_ret
  exact ⟨rfl, Below.refl _ _⟩
theorem wh_39 (k : Nat) (hk : k < (⟨#[115, 110]⟩ : ByteArray).size) (W : World) : Calls Tryz.prog 117 #[.int .u8 39, .int .i64 (k : Int)] W fun e w' => e = .returned (.bool (decide ((⟨#[115, 110]⟩ : ByteArray)[k] = 110))) ∧ Below W.heap.size W w' := by
  have hk2 : k < 2 := hk
  obtain rfl | rfl := (by omega : k = 0 ∨ k = 1)
  · exact wh_39_0 W
  · exact wh_39_1 W
theorem wh_40_0 (w : World) : Calls Tryz.prog 117 #[.int .u8 40, .int .i64 0] w fun e w' => e = .returned (.bool false) ∧ Below w.heap.size w w' := by
  go_enter Tryz.func117, Tryz.ntmps117
  go_wp2_with fail
  go_ret
  exact ⟨rfl, Below.refl _ _⟩
theorem wh_40_1 (w : World) : Calls Tryz.prog 117 #[.int .u8 40, .int .i64 1] w fun e w' => e = .returned (.bool false) ∧ Below w.heap.size w w' := by
  go_enter Tryz.func117, Tryz.ntmps117
  go_wp2_with fail
  go_ret
  exact ⟨rfl, Below.refl _ _⟩
theorem wh_40 (k : Nat) (hk : k < (⟨#[115, 115]⟩ : ByteArray).size) (W : World) : Calls Tryz.prog 117 #[.int .u8 40, .int .i64 (k : Int)] W fun e w' => e = .returned (.bool (decide ((⟨#[115, 115]⟩ : ByteArray)[k] = 110))) ∧ Below W.heap.size W w' := by
  have hk2 : k < 2 := hk
  obtain rfl | rfl := (by omega : k = 0 ∨ k = 1)
  · exact wh_40_0 W
  · exact wh_40_1 W
theorem wh_41_0 (w : World) : Calls Tryz.prog 117 #[.int .u8 41, .int .i64 0] w fun e w' => e = .returned (.bool false) ∧ Below w.heap.size w w' := by
  go_enter Tryz.func117, Tryz.ntmps117
  go_wp2_with fail
  go_ret
  exact ⟨rfl, Below.refl _ _⟩
theorem wh_41_1 (w : World) : Calls Tryz.prog 117 #[.int .u8 41, .int .i64 1] w fun e w' => e = .returned (.bool false) ∧ Below w.heap.size w w' := by
  go_enter Tryz.func117, Tryz.ntmps117
  go_wp2_with fail
  go_ret
  exact ⟨rfl, Below.refl _ _⟩
theorem wh_41_2 (w : World) : Calls Tryz.prog 117 #[.int .u8 41, .int .i64 2] w fun e w' => e = .returned (.bool true) ∧ Below w.heap.size w w' := by
  go_enter Tryz.func117, Tryz.ntmps117
  go_wp2_with fail
  go_ret
  exact ⟨rfl, Below.refl _ _⟩
theorem wh_41 (k : Nat) (hk : k < (⟨#[115, 115, 110]⟩ : ByteArray).size) (W : World) : Calls Tryz.prog 117 #[.int .u8 41, .int .i64 (k : Int)] W fun e w' => e = .returned (.bool (decide ((⟨#[115, 115, 110]⟩ : ByteArray)[k] = 110))) ∧ Below W.heap.size W w' := by
  have hk2 : k < 3 := hk
  obtain rfl | rfl | rfl := (by omega : k = 0 ∨ k = 1 ∨ k = 2)
  · exact wh_41_0 W
  · exact wh_41_1 W
  · exact wh_41_2 W
theorem wh_42_0 (w : World) : Calls Tryz.prog 117 #[.int .u8 42, .int .i64 0] w fun e w' => e = .returned (.bool false) ∧ Below w.heap.size w w' := by
  go_enter Tryz.func117, Tryz.ntmps117
  go_wp2_with fail
  go_ret
  exact ⟨rfl, Below.refl _ _⟩
theorem wh_42 (k : Nat) (hk : k < (⟨#[115]⟩ : ByteArray).size) (W : World) : Calls Tryz.prog 117 #[.int .u8 42, .int .i64 (k : Int)] W fun e w' => e = .returned (.bool (decide ((⟨#[115]⟩ : ByteArray)[k] = 110))) ∧ Below W.heap.size W w' := by
  have hk2 : k < 1 := hk
  obtain rfl := (by omega : k = 0)
  · exact wh_42_0 W
abbrev OwnN (B : Nat) (w : World) (v : Value) (L : List Int) : Prop := OwnOf 3 cellsW 1 B w v L
theorem infoInt : (Tryz.prog.info? 3).map (fun i => (i.zero, i.size, i.bytes)) = some (some (.int .i64 0), 1, 8) := by kernel_rfl
/-- What the reference's convert has gathered so far. -/
structure Cw (w wr : World) (u v : Value) (T : List ByteArray) (W : List Int) : Prop where
  f : B3 wr w.heap.size 0 0 ⟨#[]⟩
  t : OwnT (w.heap.size + 1) wr u T
  n : OwnN (w.heap.size + 1) wr v W
  b : Below w.heap.size w wr
theorem Cw.later {w wr w1 : World} {u v : Value} {T : List ByteArray} {W : List Int} (h : Cw w wr u v T W) (hB : Below wr.heap.size wr w1) : Cw w w1 u v T W :=
  ⟨h.f.later hB, OwnOf.later h.t hB, OwnOf.later h.n hB, vnext h.b hB⟩
theorem Cw.putT {w wr w1 : World} {u v u' : Value} {T T' : List ByteArray} {W : List Int} (h : Cw w wr u v T W) (ho : OwnT (w.heap.size + 1) w1 u' T') (hg : wr.grownBy w1 u.ownBlock) : Cw w w1 u' v T' W := by
  have hu := World.ownsRow.lt h.t
  have h0 : u.ownBlock ≠ some w.heap.size := fun e => by have := (hu _ e).1; omega
  exact ⟨h.f.grownB hg h0, ho, OwnOf.apart h.n h.t (by decide) hg, h.b.grown hg h.b.size (fun q hq => by have := (hu q hq).1; omega)⟩
theorem Cw.putN {w wr w1 : World} {u v v' : Value} {T : List ByteArray} {W W' : List Int} (h : Cw w wr u v T W) (ho : OwnN (w.heap.size + 1) w1 v' W') (hg : wr.grownBy w1 v.ownBlock) : Cw w w1 u v' T W' := by
  have hu := World.ownsRow.lt h.n
  have h0 : v.ownBlock ≠ some w.heap.size := fun e => by have := (hu _ e).1; omega
  exact ⟨h.f.grownB hg h0, OwnOf.apart h.t h.n (by decide) hg, ho, h.b.grown hg h.b.size (fun q hq => by have := (hu q hq).1; omega)⟩
/-- A block that is none of the lists'. -/
theorem Cw.other {w wr w1 : World} {u v : Value} {T : List ByteArray} {W : List Int} {q : Nat} (h : Cw w wr u v T W) (hg : wr.grownBy w1 (some q)) (hq : w.heap.size < q) (hu : ∀ g, u.ownBlock = some g → g ≠ q) (hv : ∀ g, v.ownBlock = some g → g ≠ q) : Cw w w1 u v T W :=
  ⟨h.f.grownB hg (fun e => by injection e with e; omega), World.ownsRow.kept h.t hg (.inr fun e => hu q e rfl), World.ownsRow.kept h.n hg (.inr fun e => hv q e rfl), h.b.grown hg h.b.size (fun p hp => by injection hp with hp; omega)⟩
theorem Cw.lt {w wr : World} {u v : Value} {T : List ByteArray} {W : List Int} (h : Cw w wr u v T W) : (∀ g, u.ownBlock = some g → g ≠ wr.heap.size) ∧ (∀ g, v.ownBlock = some g → g ≠ wr.heap.size) :=
  ⟨fun g e => by have := (World.ownsRow.lt h.t g e).2; omega, fun g e => by have := (World.ownsRow.lt h.n g e).2; omega⟩
/-- What the reference's convert returns. -/
def RvP (R : (List ByteArray × List Int) ⊕ V3) (B : Nat) (e : Ending) (w' : World) : Prop :=
  match R with
  | .inl p => ∃ u v, e = .returned (.tuple #[u, v, vOf (0, 0, ⟨#[]⟩), .bool true]) ∧ OwnT B w' u p.1 ∧ OwnN B w' v p.2.dropLast
  | .inr x => e = .returned (.tuple #[.slice none 0 0, .slice none 0 0, vOf x, .bool false])
set_option maxRecDepth 100000 in
set_option maxHeartbeats 12800000 in
theorem rconvert_any (fn : Nat) (ks : ByteArray) (a : Option Addr) (n cap : Nat) (L : List V3) (w : World) (hL : IsV w a n L) (hn : n ≤ ks.size) (hk20 : ks.size ≤ 20) (hks : ∀ c ∈ ks.data.toList, c = 115 ∨ c = 110)
    (hwh : ∀ (k : Nat) (hk : k < ks.size) (W : World), Calls Tryz.prog 117 #[.int .u8 (fn : Int), .int .i64 (k : Int)] W fun e w' => e = .returned (.bool (decide (ks[k] = 110))) ∧ Below W.heap.size W w')
    (hv : ∀ v ∈ L, v.2.2.size ≤ 2000 ∧ InI v.2.1) (hT : Tb w) :
    Calls Tryz.prog 53 #[.int .u8 (fn : Int), .slice a n cap] w fun e w' => RvP (convR ks.data.toList L [] []) (w.heap.size + 1) e w' ∧ Below w.heap.size w w' := by
  have HL := Lib.hid hL
  have HNL := Lib.hid hL.1
  have HKS := Lib.hid hks
  have HWH := Lib.hid hwh
  have HV := Lib.hid hv
  have HT := Lib.hid hT
  have HKL : Hid (ks.data.toList.length = ks.size) := Array.length_toList
  obtain ⟨R, hR⟩ : ∃ R, convR ks.data.toList L [] [] = R := ⟨_, rfl⟩
  rw [hR]
  have HR : Hid (convR (ks.data.toList.drop 0) (L.drop 0) [] [] = R) := by rw [List.drop_zero, List.drop_zero]; exact hR
  clear hL hks hwh hv hT hR
  have HC : Hid (Cw w (w.alloc (.cells #[.int .u8 0, .int .i64 0, .string ⟨#[]⟩] 25)) (.slice none 0 0) (.slice none 0 0) [] []) := ⟨B3.start w 0 0 ⟨#[]⟩, OwnOf.nil _ _ _ _ _, OwnOf.nil _ _ _ _ _, valloc w _⟩
  go_enter Tryz.func53, Tryz.ntmps53
  go_wp2_with fail
  generalize w.alloc (.cells #[.int .u8 0, .int .i64 0, .string ⟨#[]⟩] 25) = w0 at *
  go_loopw [4, 5, 8] (fun u v i wr => ∃ (k : Nat) (T : List ByteArray) (W : List Int), k ≤ n ∧ i = .int .i64 (k : Int) ∧ Hid (Cw w wr u v T W) ∧ Hid (convR (ks.data.toList.drop k) (L.drop k) T W = R) ∧ Hid (T.length ≤ k ∧ W.length ≤ k)) (fun _ _ i _ => n - (intOf i).toNat)
  case atStart => exact ⟨0, [], [], Nat.zero_le _, rfl, HC.out, HR.out, Nat.le_refl _, Nat.le_refl _⟩
  case round =>
    obtain ⟨k, T, W, hk, rfl, HCr, HRr, HLN⟩ := hrel
    clear HC HR
    obtain ⟨ua, uc, rfl, _⟩ := OwnOf.isOf cellsT_len HCr.out.t
    obtain ⟨va, vc, rfl, _⟩ := OwnOf.isOf cellsW_len HCr.out.n
    by_cases hlt : k < n
    · have hkl : k < L.length := by rw [HNL.out]; exact hlt
      have hks2 : k < ks.size := by omega
      have hkk : k < ks.data.toList.length := by rw [HKL.out]; exact hks2
      have hst := convR_step hkk hkl T W
      rw [HRr.out] at hst
      have hkd := HKS.out _ (List.getElem_mem hkk)
      have hkg : ks.data.toList[k] = ks[k] := rfl
      obtain ⟨hvs, hvi⟩ := HV.out L[k] (List.getElem_mem hkl)
      have HWk := Lib.hid (HWH.out k hks2)
      obtain ⟨b, off, rfl, hbl, c1, c2, c3⟩ := isV_at (IsOf.later HL.out HCr.out.b) hkl
      rw [hkg] at hst hkd
      have HIN := Lib.hid (cv1_in L[k].1 L[k].2.1 L[k].2.2 hvi)
      have HVr := Lib.hid (isV_at (IsOf.later HL.out HCr.out.b) hkl)
      generalize L[k] = vv at *
      obtain ⟨kd, nm, tx⟩ := vv
      dsimp only at c1 c2 c3 hvs hvi HIN
      have HST := Lib.hid hst
      have HLT := Lib.hid HCr.out.lt
      have hq8 : w.heap.size < wr.heap.size := HCr.out.f.lt
      have HTr := Lib.hid (HT.out.later HCr.out.b)
      clear hst HRr hkg HVr
      rcases hkd with hkc | hkc
      · have HCK := Lib.hid (fun W hW => rto_text kd nm tx hvs hvi W hW)
        have hck : cvK ks[k] (kd, nm, tx) = cvR 3 kd nm tx := by unfold cvK; rw [hkc]; rfl
        rw [hck, hkc] at HST
        have hdk : decide (ks[k] = 110) = false := by rw [hkc]; rfl
        rw [hdk] at HWk
        clear hck hkc hdk HIN
        generalize cvR 3 kd nm tx = r at *
        obtain ⟨rk, rn, rs⟩ := r
        dsimp only at HCK HST
        go_wp2_with fail
        refine (HWk.out _).mono ?_
        rintro e wq ⟨rfl, hBq⟩
        have hcq := HCr.out.later hBq
        have HCq := Lib.hid hcq
        obtain ⟨b, off, hbe, hbl, c1, c2, c3⟩ := (show ∃ b' off', some (⟨b, off, none⟩ : Addr) = some ⟨b', off', none⟩ ∧ b' < wq.heap.size ∧ wq.cell? ⟨b', off' + k * 3, none⟩ = some (.int .u8 (kd : Int)) ∧ wq.cell? ⟨b', off' + k * 3 + 1, none⟩ = some (.int .i64 nm) ∧ wq.cell? ⟨b', off' + k * 3 + 2, none⟩ = some (.string tx) from
          ⟨b, off, rfl, Nat.lt_of_lt_of_le hbl hBq.size, (hBq.cell (p := ⟨b, off + k * 3, none⟩) hbl).trans c1, (hBq.cell (p := ⟨b, off + k * 3 + 1, none⟩) hbl).trans c2, (hBq.cell (p := ⟨b, off + k * 3 + 2, none⟩) hbl).trans c3⟩)
        cases hbe
        have HTq := Lib.hid (HTr.out.later hBq)
        clear hcq hBq HTr HWk
        go_wp2_with fail
        refine (HCK.out _ HTq.out).mono ?_
        rintro e w1 ⟨rfl, hB1⟩
        have HC1 := Lib.hid (HCq.out.later hB1)
        clear hB1 HCq HTq HCK c1 c2 c3 hbl
        have HX := Lib.hid (B3.start w1 rk rn rs)
        have HC2 := Lib.hid (HC1.out.later (valloc w1 (.cells #[.int .u8 (rk : Int), .int .i64 rn, .string rs] 25)))
        go_upto_region 10 with fail
        clear HC1
        generalize w1.alloc (.cells #[.int .u8 (rk : Int), .int .i64 rn, .string rs] 25) = w2 at *
        obtain ⟨y0, y1, y2, _, _, _⟩ := HX.out.cells
        have hq8l : w1.heap.size < w2.heap.size := HX.out.lt
        obtain ⟨g0, g1, g2, i0, i1, i2⟩ := HC2.out.f.cells
        have hqf : w.heap.size < w2.heap.size := HC2.out.f.lt
        by_cases h4 : rk = 4
        · have hk4 : ((rk : Int) == 4) = true := by rw [h4]; rfl
          have HRR : Hid (R = .inr (rk, rn, rs)) := by rw [HST.out, if_pos h4]; exact rfl
          clear h4
          obtain ⟨hq, hg⟩ := b3_set HC2.out.f rk rn rs
          have HQ := Lib.hid hq
          have HB4 := Lib.hid (HC2.out.b.grown hg HC2.out.b.size (fun q hq => by injection hq with hq; omega))
          clear hq hg
          go_wp2_with fail
          go_region
          clear y0 y1 y2 g0 g1 g2 i0 i1 i2
          generalize ((w2.setCell ⟨w.heap.size, 0, none⟩ (.int .u8 (rk : Int))).setCell ⟨w.heap.size, 1, none⟩ (.int .i64 rn)).setCell ⟨w.heap.size, 2, none⟩ (.string rs) = w4 at *
          have k2 : B3 w4.drew w.heap.size rk rn rs := HQ.out
          have k3 := Lib.hid HB4.out.drew
          generalize w4.drew = w6 at *
          obtain ⟨y0, y1, y2, _, _, _⟩ := k2.cells
          go_wp2_with fail
          refine bodyPost_ret (v := .tuple #[.slice none 0 0, .slice none 0 0, .agg #[.int .u8 (rk : Int), .int .i64 rn, .string rs], .bool false]) (by simp [results, Tryz.results53, go_sem, y0, y1, y2]) rfl ⟨by rw [HRR.out]; exact rfl, k3.out⟩
        · have hk4 : ((rk : Int) == 4) = false := by simp; omega
          rw [if_neg h4, if_pos trivial] at HST
          have HST2 := Lib.hid HST.out.symm
          have hTl : T.length ≤ 20 := by have := HLN.out.1; omega
          have hWl : W.length ≤ 20 := by have := HLN.out.2; omega
          clear h4 HST
          go_wp2_with (at_builtin; go_loud (refine wpList_appG rfl (.tmp 44) (.tmp 47) 60 rfl Tryz.underlying60 _ 16 infoStr zeroS (by decide) (by decide) cellsT_len cellsT_one (w.heap.size + 1) _ T rfl (OwnOf.alloc HC2.out.t _) _ 1 1 [rs] rfl (isOf_new _ _ _ _ rfl) (by omega) (by simp; omega) ?_; intro v5 w5 ho5 hg5 hr5; have HC5 := Lib.hid ((HC2.out.later (valloc w2 (.cells #[.string rs] 9))).putT ho5 hg5); clear hg5 ho5 hr5))
          exact ⟨⟨k + 1, T ++ [rs], W, by omega, by go_num, HC5.out, HST2.out, by have := HLN.out; unfold Hid; simp; omega⟩, by simp [intOf]; omega⟩
      · have HCK := Lib.hid (fun W hW => rto_num kd nm tx hvs hvi W hW)
        have hck : cvK ks[k] (kd, nm, tx) = cvR 1 kd nm tx := by unfold cvK; rw [hkc]; rfl
        rw [hck, hkc] at HST
        have hdk : decide (ks[k] = 110) = true := by rw [hkc]; rfl
        rw [hdk] at HWk
        clear hck hkc hdk
        generalize cvR 1 kd nm tx = r at *
        obtain ⟨rk, rn, rs⟩ := r
        dsimp only at HCK HST HIN
        go_wp2_with fail
        refine (HWk.out _).mono ?_
        rintro e wq ⟨rfl, hBq⟩
        have hcq := HCr.out.later hBq
        have HCq := Lib.hid hcq
        obtain ⟨b, off, hbe, hbl, c1, c2, c3⟩ := (show ∃ b' off', some (⟨b, off, none⟩ : Addr) = some ⟨b', off', none⟩ ∧ b' < wq.heap.size ∧ wq.cell? ⟨b', off' + k * 3, none⟩ = some (.int .u8 (kd : Int)) ∧ wq.cell? ⟨b', off' + k * 3 + 1, none⟩ = some (.int .i64 nm) ∧ wq.cell? ⟨b', off' + k * 3 + 2, none⟩ = some (.string tx) from
          ⟨b, off, rfl, Nat.lt_of_lt_of_le hbl hBq.size, (hBq.cell (p := ⟨b, off + k * 3, none⟩) hbl).trans c1, (hBq.cell (p := ⟨b, off + k * 3 + 1, none⟩) hbl).trans c2, (hBq.cell (p := ⟨b, off + k * 3 + 2, none⟩) hbl).trans c3⟩)
        cases hbe
        have HTq := Lib.hid (HTr.out.later hBq)
        clear hcq hBq HTr HWk
        go_wp2_with fail
        refine (HCK.out _ HTq.out).mono ?_
        rintro e w1 ⟨rfl, hB1⟩
        have HC1 := Lib.hid (HCq.out.later hB1)
        clear hB1 HCq HTq HCK c1 c2 c3 hbl
        have HX := Lib.hid (B3.start w1 rk rn rs)
        have HC2 := Lib.hid (HC1.out.later (valloc w1 (.cells #[.int .u8 (rk : Int), .int .i64 rn, .string rs] 25)))
        go_upto_region 6 with fail
        clear HC1
        generalize w1.alloc (.cells #[.int .u8 (rk : Int), .int .i64 rn, .string rs] 25) = w2 at *
        obtain ⟨y0, y1, y2, _, _, _⟩ := HX.out.cells
        have hq8l : w1.heap.size < w2.heap.size := HX.out.lt
        obtain ⟨g0, g1, g2, i0, i1, i2⟩ := HC2.out.f.cells
        have hqf : w.heap.size < w2.heap.size := HC2.out.f.lt
        by_cases h4 : rk = 4
        · have hk4 : ((rk : Int) == 4) = true := by rw [h4]; rfl
          have HRR : Hid (R = .inr (rk, rn, rs)) := by rw [HST.out, if_pos h4]; exact rfl
          clear h4
          obtain ⟨hq, hg⟩ := b3_set HC2.out.f rk rn rs
          have HQ := Lib.hid hq
          have HB4 := Lib.hid (HC2.out.b.grown hg HC2.out.b.size (fun q hq => by injection hq with hq; omega))
          clear hq hg
          go_wp2_with fail
          go_region
          clear y0 y1 y2 g0 g1 g2 i0 i1 i2
          generalize ((w2.setCell ⟨w.heap.size, 0, none⟩ (.int .u8 (rk : Int))).setCell ⟨w.heap.size, 1, none⟩ (.int .i64 rn)).setCell ⟨w.heap.size, 2, none⟩ (.string rs) = w4 at *
          have k2 : B3 w4.drew w.heap.size rk rn rs := HQ.out
          have k3 := Lib.hid HB4.out.drew
          generalize w4.drew = w6 at *
          obtain ⟨y0, y1, y2, _, _, _⟩ := k2.cells
          go_wp2_with fail
          refine bodyPost_ret (v := .tuple #[.slice none 0 0, .slice none 0 0, .agg #[.int .u8 (rk : Int), .int .i64 rn, .string rs], .bool false]) (by simp [results, Tryz.results53, go_sem, y0, y1, y2]) rfl ⟨by rw [HRR.out]; exact rfl, k3.out⟩
        · have hk4 : ((rk : Int) == 4) = false := by simp; omega
          rw [if_neg h4, if_neg (by decide)] at HST
          have HST2 := Lib.hid HST.out.symm
          have hTl : T.length ≤ 20 := by have := HLN.out.1; omega
          have hWl : W.length ≤ 20 := by have := HLN.out.2; omega
          clear h4 HST
          have htd := trunc_div rn
          have tb1 := Lib.hid HIN.out
          have tb3 := tq_bd HIN.out
          unfold InI at tb3
          have hwq : IntKind.i64.wrap (rn.tdiv 10000) = rn.tdiv 10000 := IntWalk.i64_in _ (by omega)
          rw [htd] at HST2
          clear htd tb3
          go_wp2_with (at_builtin; go_loud (refine wpList_appG rfl (.tmp 29) (.tmp 33) 68 rfl Tryz.underlying68 _ 8 infoInt zeroI (by decide) (by decide) cellsW_len cellsW_one (w.heap.size + 1) _ W rfl (OwnOf.alloc HC2.out.n _) _ 1 1 [rn.tdiv 10000] rfl (by first | exact isOf_new _ _ _ _ rfl | exact isOf_new _ _ _ _ (by rw [hwq]; rfl)) (by omega) (by simp; omega) ?_; intro v5 w5 ho5 hg5 hr5; have HC5 := Lib.hid ((HC2.out.later (valloc w2 (.cells #[.int .i64 (rn.tdiv 10000)] 3))).putN ho5 hg5); clear hg5 ho5 hr5))
          exact ⟨⟨k + 1, T, W ++ [rn.tdiv 10000], by omega, by go_num, HC5.out, HST2.out, by have := HLN.out; unfold Hid; simp; omega⟩, by simp [intOf]; omega⟩
    · obtain rfl : k = n := by omega
      have hend := convR_end (ks := ks.data.toList) (L := L) (k := k) (by rw [HNL.out]; exact Nat.le_refl _) T W
      rw [HRr.out] at hend
      have HRE := Lib.hid hend
      clear hend HRr
      obtain ⟨x0, x1, x2, z0, z1, z2⟩ := HCr.out.f.cells
      have hXl := HCr.out.f.lt
      obtain ⟨hq, hg⟩ := b3_set HCr.out.f 0 0 ⟨#[]⟩
      have HN9 := Lib.hid (show OwnT (w.heap.size + 1) (((wr.setCell ⟨w.heap.size, 0, none⟩ (.int .u8 ((0 : Nat) : Int))).setCell ⟨w.heap.size, 1, none⟩ (.int .i64 0)).setCell ⟨w.heap.size, 2, none⟩ (.string ⟨#[]⟩)) (.slice ua T.length uc) T ∧ OwnN (w.heap.size + 1) (((wr.setCell ⟨w.heap.size, 0, none⟩ (.int .u8 ((0 : Nat) : Int))).setCell ⟨w.heap.size, 1, none⟩ (.int .i64 0)).setCell ⟨w.heap.size, 2, none⟩ (.string ⟨#[]⟩)) (.slice va W.length vc) W from
        ⟨World.ownsRow.kept HCr.out.t hg (.inr fun e => by have := (World.ownsRow.lt HCr.out.t _ e).1; omega), World.ownsRow.kept HCr.out.n hg (.inr fun e => by have := (World.ownsRow.lt HCr.out.n _ e).1; omega)⟩)
      have hb5 := HCr.out.b.grown hg HCr.out.b.size (fun q hq => by injection hq with hq; omega)
      clear hg
      go_wp2_with fail
      generalize ((wr.setCell ⟨w.heap.size, 0, none⟩ (.int .u8 ((0 : Nat) : Int))).setCell ⟨w.heap.size, 1, none⟩ (.int .i64 0)).setCell ⟨w.heap.size, 2, none⟩ (.string ⟨#[]⟩) = w5 at *
      obtain ⟨y0, y1, y2, _, _, _⟩ := hq.cells
      refine bodyPost_ret (v := .tuple #[.slice ua T.length uc, .slice va W.length vc, .agg #[.int .u8 0, .int .i64 0, .string ⟨#[]⟩], .bool true]) (by simp [results, Tryz.results53, go_sem, y0, y1, y2]) rfl ⟨by rw [HRE.out]; exact ⟨_, _, rfl, HN9.out.1, by rw [List.dropLast_concat]; exact HN9.out.2⟩, hb5⟩
end Go.Proofs.YtfjefanhkbcfgaaGreatDoor.Va
