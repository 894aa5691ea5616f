/- Merged: FuE FuF FuG FuH. -/
import Derived.Test.YtdhahiodnmmkeaaGreatDoorMgi
import Derived.Test.YtdhahiodnmmkeaaGreatDoorValYn
import Derived.Test.YtdhahiodnmmkeaaGreatDoorValA
import Derived.ChangeArms
import Derived.DataShut
/- The reference's conversion of arguments. -/
namespace Go.Proofs.YtdhahiodnmmkeaaGreatDoor.Va
open Go Go.RowKit GM
set_option linter.unusedVariables false
set_option linter.unusedSimpArgs false
theorem ycj (w : World) : Calls Tryz.prog 162 #[.int .u8 31, .int .i64 0] w fun e w' => e = .returned (.bool false) ∧ Below w.heap.size w w' := by
 go_enter Tryz.func162, Tryz.ntmps162
 go_wp2_with fail
 go_ret
 exact ⟨rfl, Below.refl _ _⟩
theorem yg9 (k : Nat) (hk : k < (⟨#[115]⟩ : ByteArray).size) (W : World) : Calls Tryz.prog 162 #[.int .u8 31, .int .i64 (k : Int)] W fun e w' => e = .returned (.bool (decide ((⟨#[115]⟩ : ByteArray)[k] = 110))) ∧ Below W.heap.size W w' := by
 have hk2 : k < 1 := hk
 obtain rfl := (by omega : k = 0)
 · exact ycj W
theorem yci (w : World) : Calls Tryz.prog 162 #[.int .u8 32, .int .i64 0] w fun e w' => e = .returned (.bool false) ∧ Below w.heap.size w w' := by
 go_enter Tryz.func162, Tryz.ntmps162
 go_wp2_with fail
 go_ret
 exact ⟨rfl, Below.refl _ _⟩
theorem ych (w : World) : Calls Tryz.prog 162 #[.int .u8 32, .int .i64 1] w fun e w' => e = .returned (.bool true) ∧ Below w.heap.size w w' := by
 go_enter Tryz.func162, Tryz.ntmps162
 go_wp2_with fail
 go_ret
 exact ⟨rfl, Below.refl _ _⟩
theorem yg8 (k : Nat) (hk : k < (⟨#[115, 110]⟩ : ByteArray).size) (W : World) : Calls Tryz.prog 162 #[.int .u8 32, .int .i64 (k : Int)] W fun e w' => e = .returned (.bool (decide ((⟨#[115, 110]⟩ : ByteArray)[k] = 110))) ∧ Below W.heap.size W w' := by
 have hk2 : k < 2 := hk
 obtain rfl | rfl := (by omega : k = 0 ∨ k = 1)
 · exact yci W
 · exact ych W
theorem ycg (w : World) : Calls Tryz.prog 162 #[.int .u8 33, .int .i64 0] w fun e w' => e = .returned (.bool false) ∧ Below w.heap.size w w' := by
 go_enter Tryz.func162, Tryz.ntmps162
 go_wp2_with fail
 go_ret
 exact ⟨rfl, Below.refl _ _⟩
theorem ycf (w : World) : Calls Tryz.prog 162 #[.int .u8 33, .int .i64 1] w fun e w' => e = .returned (.bool true) ∧ Below w.heap.size w w' := by
 go_enter Tryz.func162, Tryz.ntmps162
 go_wp2_with fail
 go_ret
 exact ⟨rfl, Below.refl _ _⟩
theorem yg7 (k : Nat) (hk : k < (⟨#[115, 110]⟩ : ByteArray).size) (W : World) : Calls Tryz.prog 162 #[.int .u8 33, .int .i64 (k : Int)] W fun e w' => e = .returned (.bool (decide ((⟨#[115, 110]⟩ : ByteArray)[k] = 110))) ∧ Below W.heap.size W w' := by
 have hk2 : k < 2 := hk
 obtain rfl | rfl := (by omega : k = 0 ∨ k = 1)
 · exact ycg W
 · exact ycf W
theorem yce (w : World) : Calls Tryz.prog 162 #[.int .u8 34, .int .i64 0] w fun e w' => e = .returned (.bool false) ∧ Below w.heap.size w w' := by
 go_enter Tryz.func162, Tryz.ntmps162
 go_wp2_with fail
 go_ret
 exact ⟨rfl, Below.refl _ _⟩
theorem ycd (w : World) : Calls Tryz.prog 162 #[.int .u8 34, .int .i64 1] w fun e w' => e = .returned (.bool true) ∧ Below w.heap.size w w' := by
 go_enter Tryz.func162, Tryz.ntmps162
 go_wp2_with fail
 go_ret
 exact ⟨rfl, Below.refl _ _⟩
theorem ycc (w : World) : Calls Tryz.prog 162 #[.int .u8 34, .int .i64 2] w fun e w' => e = .returned (.bool true) ∧ Below w.heap.size w w' := by
 go_enter Tryz.func162, Tryz.ntmps162
 go_wp2_with fail
 go_ret
 exact ⟨rfl, Below.refl _ _⟩
theorem yg6 (k : Nat) (hk : k < (⟨#[115, 110, 110]⟩ : ByteArray).size) (W : World) : Calls Tryz.prog 162 #[.int .u8 34, .int .i64 (k : Int)] W fun e w' => e = .returned (.bool (decide ((⟨#[115, 110, 110]⟩ : ByteArray)[k] = 110))) ∧ Below W.heap.size W w' := by
 have hk2 : k < 3 := hk
 obtain rfl | rfl | rfl := (by omega : k = 0 ∨ k = 1 ∨ k = 2)
 · exact yce W
 · exact ycd W
 · exact ycc W
theorem ycb (w : World) : Calls Tryz.prog 162 #[.int .u8 35, .int .i64 0] w fun e w' => e = .returned (.bool false) ∧ Below w.heap.size w w' := by
 go_enter Tryz.func162, Tryz.ntmps162
 go_wp2_with fail
 go_ret
 exact ⟨rfl, Below.refl _ _⟩
theorem yg5 (k : Nat) (hk : k < (⟨#[115]⟩ : ByteArray).size) (W : World) : Calls Tryz.prog 162 #[.int .u8 35, .int .i64 (k : Int)] W fun e w' => e = .returned (.bool (decide ((⟨#[115]⟩ : ByteArray)[k] = 110))) ∧ Below W.heap.size W w' := by
 have hk2 : k < 1 := hk
 obtain rfl := (by omega : k = 0)
 · exact ycb W
theorem yca (w : World) : Calls Tryz.prog 162 #[.int .u8 36, .int .i64 0] w fun e w' => e = .returned (.bool false) ∧ Below w.heap.size w w' := by
 go_enter Tryz.func162, Tryz.ntmps162
 go_wp2_with fail
 go_ret
 exact ⟨rfl, Below.refl _ _⟩
theorem yg4 (k : Nat) (hk : k < (⟨#[115]⟩ : ByteArray).size) (W : World) : Calls Tryz.prog 162 #[.int .u8 36, .int .i64 (k : Int)] W fun e w' => e = .returned (.bool (decide ((⟨#[115]⟩ : ByteArray)[k] = 110))) ∧ Below W.heap.size W w' := by
 have hk2 : k < 1 := hk
 obtain rfl := (by omega : k = 0)
 · exact yca W
theorem yb9 (w : World) : Calls Tryz.prog 162 #[.int .u8 37, .int .i64 0] w fun e w' => e = .returned (.bool false) ∧ Below w.heap.size w w' := by
 go_enter Tryz.func162, Tryz.ntmps162
 go_wp2_with fail
 go_ret
 exact ⟨rfl, Below.refl _ _⟩
theorem yg3 (k : Nat) (hk : k < (⟨#[115]⟩ : ByteArray).size) (W : World) : Calls Tryz.prog 162 #[.int .u8 37, .int .i64 (k : Int)] W fun e w' => e = .returned (.bool (decide ((⟨#[115]⟩ : ByteArray)[k] = 110))) ∧ Below W.heap.size W w' := by
 have hk2 : k < 1 := hk
 obtain rfl := (by omega : k = 0)
 · exact yb9 W
theorem yb8 (w : World) : Calls Tryz.prog 162 #[.int .u8 38, .int .i64 0] w fun e w' => e = .returned (.bool false) ∧ Below w.heap.size w w' := by
 go_enter Tryz.func162, Tryz.ntmps162
 go_wp2_with fail
 go_ret
 exact ⟨rfl, Below.refl _ _⟩
theorem yb7 (w : World) : Calls Tryz.prog 162 #[.int .u8 38, .int .i64 1] w fun e w' => e = .returned (.bool false) ∧ Below w.heap.size w w' := by
 go_enter Tryz.func162, Tryz.ntmps162
 go_wp2_with fail
 go_ret
 exact ⟨rfl, Below.refl _ _⟩
theorem yb6 (w : World) : Calls Tryz.prog 162 #[.int .u8 38, .int .i64 2] w fun e w' => e = .returned (.bool false) ∧ Below w.heap.size w w' := by
 go_enter Tryz.func162, Tryz.ntmps162
 go_wp2_with fail
 go_ret
 exact ⟨rfl, Below.refl _ _⟩
theorem yb5 (w : World) : Calls Tryz.prog 162 #[.int .u8 38, .int .i64 3] w fun e w' => e = .returned (.bool false) ∧ Below w.heap.size w w' := by
 go_enter Tryz.func162, Tryz.ntmps162
 go_wp2_with fail
 go_ret
 exact ⟨rfl, Below.refl _ _⟩
theorem yb4 (w : World) : Calls Tryz.prog 162 #[.int .u8 38, .int .i64 4] w fun e w' => e = .returned (.bool false) ∧ Below w.heap.size w w' := by
 go_enter Tryz.func162, Tryz.ntmps162
 go_wp2_with fail
 go_ret
 exact ⟨rfl, Below.refl _ _⟩
theorem yb3 (w : World) : Calls Tryz.prog 162 #[.int .u8 38, .int .i64 5] w fun e w' => e = .returned (.bool false) ∧ Below w.heap.size w w' := by
 go_enter Tryz.func162, Tryz.ntmps162
 go_wp2_with fail
 go_ret
 exact ⟨rfl, Below.refl _ _⟩
theorem yb2 (w : World) : Calls Tryz.prog 162 #[.int .u8 38, .int .i64 6] w fun e w' => e = .returned (.bool false) ∧ Below w.heap.size w w' := by
 go_enter Tryz.func162, Tryz.ntmps162
 go_wp2_with fail
 go_ret
 exact ⟨rfl, Below.refl _ _⟩
theorem yb1 (w : World) : Calls Tryz.prog 162 #[.int .u8 38, .int .i64 7] w fun e w' => e = .returned (.bool false) ∧ Below w.heap.size w w' := by
 go_enter Tryz.func162, Tryz.ntmps162
 go_wp2_with fail
 go_ret
 exact ⟨rfl, Below.refl _ _⟩
theorem yb0 (w : World) : Calls Tryz.prog 162 #[.int .u8 38, .int .i64 8] w fun e w' => e = .returned (.bool false) ∧ Below w.heap.size w w' := by
 go_enter Tryz.func162, Tryz.ntmps162
 go_wp2_with fail
 go_ret
 exact ⟨rfl, Below.refl _ _⟩
theorem ybz (w : World) : Calls Tryz.prog 162 #[.int .u8 38, .int .i64 9] w fun e w' => e = .returned (.bool false) ∧ Below w.heap.size w w' := by
 go_enter Tryz.func162, Tryz.ntmps162
 go_wp2_with fail
 go_ret
 exact ⟨rfl, Below.refl _ _⟩
theorem zxi (w : World) : Calls Tryz.prog 162 #[.int .u8 38, .int .i64 10] w fun e w' => e = .returned (.bool false) ∧ Below w.heap.size w w' := by
 go_enter Tryz.func162, Tryz.ntmps162
 go_wp2_with fail
 go_ret
 exact ⟨rfl, Below.refl _ _⟩
theorem zxh (w : World) : Calls Tryz.prog 162 #[.int .u8 38, .int .i64 11] w fun e w' => e = .returned (.bool false) ∧ Below w.heap.size w w' := by
 go_enter Tryz.func162, Tryz.ntmps162
 go_wp2_with fail
 go_ret
 exact ⟨rfl, Below.refl _ _⟩
theorem zxg (w : World) : Calls Tryz.prog 162 #[.int .u8 38, .int .i64 12] w fun e w' => e = .returned (.bool false) ∧ Below w.heap.size w w' := by
 go_enter Tryz.func162, Tryz.ntmps162
 go_wp2_with fail
 go_ret
 exact ⟨rfl, Below.refl _ _⟩
theorem zxf (w : World) : Calls Tryz.prog 162 #[.int .u8 38, .int .i64 13] w fun e w' => e = .returned (.bool false) ∧ Below w.heap.size w w' := by
 go_enter Tryz.func162, Tryz.ntmps162
 go_wp2_with fail
 go_ret
 exact ⟨rfl, Below.refl _ _⟩
theorem zxe (w : World) : Calls Tryz.prog 162 #[.int .u8 38, .int .i64 14] w fun e w' => e = .returned (.bool false) ∧ Below w.heap.size w w' := by
 go_enter Tryz.func162, Tryz.ntmps162
 go_wp2_with fail
 go_ret
 exact ⟨rfl, Below.refl _ _⟩
theorem zxd (w : World) : Calls Tryz.prog 162 #[.int .u8 38, .int .i64 15] w fun e w' => e = .returned (.bool false) ∧ Below w.heap.size w w' := by
 go_enter Tryz.func162, Tryz.ntmps162
 go_wp2_with fail
 go_ret
 exact ⟨rfl, Below.refl _ _⟩
theorem yg2 (k : Nat) (hk : k < (⟨#[115, 115, 115, 115, 115, 115, 115, 115, 115, 115, 115, 115, 115, 115, 115, 115]⟩ : ByteArray).size) (W : World) : Calls Tryz.prog 162 #[.int .u8 38, .int .i64 (k : Int)] W fun e w' => e = .returned (.bool (decide ((⟨#[115, 115, 115, 115, 115, 115, 115, 115, 115, 115, 115, 115, 115, 115, 115, 115]⟩ : ByteArray)[k] = 110))) ∧ Below W.heap.size W w' := by
 have hk2 : k < 16 := hk
 obtain rfl | rfl | rfl | rfl | rfl | rfl | rfl | rfl | rfl | rfl | rfl | rfl | rfl | rfl | rfl | rfl := (by omega : k = 0 ∨ k = 1 ∨ k = 2 ∨ k = 3 ∨ k = 4 ∨ k = 5 ∨ k = 6 ∨ k = 7 ∨ k = 8 ∨ k = 9 ∨ k = 10 ∨ k = 11 ∨ k = 12 ∨ k = 13 ∨ k = 14 ∨ k = 15)
 · exact yb8 W
 · exact yb7 W
 · exact yb6 W
 · exact yb5 W
 · exact yb4 W
 · exact yb3 W
 · exact yb2 W
 · exact yb1 W
 · exact yb0 W
 · exact ybz W
 · exact zxi W
 · exact zxh W
 · exact zxg W
 · exact zxf W
 · exact zxe W
 · exact zxd W
theorem yby (w : World) : Calls Tryz.prog 162 #[.int .u8 39, .int .i64 0] w fun e w' => e = .returned (.bool false) ∧ Below w.heap.size w w' := by
 go_enter Tryz.func162, Tryz.ntmps162
 go_wp2_with fail
 go_ret
 exact ⟨rfl, Below.refl _ _⟩
theorem ybx (w : World) : Calls Tryz.prog 162 #[.int .u8 39, .int .i64 1] w fun e w' => e = .returned (.bool true) ∧ Below w.heap.size w w' := by
 go_enter Tryz.func162, Tryz.ntmps162
 go_wp2_with fail
 go_ret
 exact ⟨rfl, Below.refl _ _⟩
theorem yg1 (k : Nat) (hk : k < (⟨#[115, 110]⟩ : ByteArray).size) (W : World) : Calls Tryz.prog 162 #[.int .u8 39, .int .i64 (k : Int)] W fun e w' => e = .returned (.bool (decide ((⟨#[115, 110]⟩ : ByteArray)[k] = 110))) ∧ Below W.heap.size W w' := by
 have hk2 : k < 2 := hk
 obtain rfl | rfl := (by omega : k = 0 ∨ k = 1)
 · exact yby W
 · exact ybx W
theorem ybw (w : World) : Calls Tryz.prog 162 #[.int .u8 40, .int .i64 0] w fun e w' => e = .returned (.bool false) ∧ Below w.heap.size w w' := by
 go_enter Tryz.func162, Tryz.ntmps162
 go_wp2_with fail
 go_ret
 exact ⟨rfl, Below.refl _ _⟩
theorem ybv (w : World) : Calls Tryz.prog 162 #[.int .u8 40, .int .i64 1] w fun e w' => e = .returned (.bool false) ∧ Below w.heap.size w w' := by
 go_enter Tryz.func162, Tryz.ntmps162
 go_wp2_with fail
 go_ret
 exact ⟨rfl, Below.refl _ _⟩
theorem yg0 (k : Nat) (hk : k < (⟨#[115, 115]⟩ : ByteArray).size) (W : World) : Calls Tryz.prog 162 #[.int .u8 40, .int .i64 (k : Int)] W fun e w' => e = .returned (.bool (decide ((⟨#[115, 115]⟩ : ByteArray)[k] = 110))) ∧ Below W.heap.size W w' := by
 have hk2 : k < 2 := hk
 obtain rfl | rfl := (by omega : k = 0 ∨ k = 1)
 · exact ybw W
 · exact ybv W
theorem ybu (w : World) : Calls Tryz.prog 162 #[.int .u8 41, .int .i64 0] w fun e w' => e = .returned (.bool false) ∧ Below w.heap.size w w' := by
 go_enter Tryz.func162, Tryz.ntmps162
 go_wp2_with fail
 go_ret
 exact ⟨rfl, Below.refl _ _⟩
theorem ybt (w : World) : Calls Tryz.prog 162 #[.int .u8 41, .int .i64 1] w fun e w' => e = .returned (.bool false) ∧ Below w.heap.size w w' := by
 go_enter Tryz.func162, Tryz.ntmps162
 go_wp2_with fail
 go_ret
 exact ⟨rfl, Below.refl _ _⟩
theorem ybs (w : World) : Calls Tryz.prog 162 #[.int .u8 41, .int .i64 2] w fun e w' => e = .returned (.bool true) ∧ Below w.heap.size w w' := by
 go_enter Tryz.func162, Tryz.ntmps162
 go_wp2_with fail
 go_ret
 exact ⟨rfl, Below.refl _ _⟩
theorem ygz (k : Nat) (hk : k < (⟨#[115, 115, 110]⟩ : ByteArray).size) (W : World) : Calls Tryz.prog 162 #[.int .u8 41, .int .i64 (k : Int)] W fun e w' => e = .returned (.bool (decide ((⟨#[115, 115, 110]⟩ : ByteArray)[k] = 110))) ∧ Below W.heap.size W w' := by
 have hk2 : k < 3 := hk
 obtain rfl | rfl | rfl := (by omega : k = 0 ∨ k = 1 ∨ k = 2)
 · exact ybu W
 · exact ybt W
 · exact ybs W
theorem ybr (w : World) : Calls Tryz.prog 162 #[.int .u8 42, .int .i64 0] w fun e w' => e = .returned (.bool false) ∧ Below w.heap.size w w' := by
 go_enter Tryz.func162, Tryz.ntmps162
 go_wp2_with fail
 go_ret
 exact ⟨rfl, Below.refl _ _⟩
theorem ygy (k : Nat) (hk : k < (⟨#[115]⟩ : ByteArray).size) (W : World) : Calls Tryz.prog 162 #[.int .u8 42, .int .i64 (k : Int)] W fun e w' => e = .returned (.bool (decide ((⟨#[115]⟩ : ByteArray)[k] = 110))) ∧ Below W.heap.size W w' := by
 have hk2 : k < 1 := hk
 obtain rfl := (by omega : k = 0)
 · exact ybr W
abbrev OwnN (B : Nat) (w : World) (v : Value) (L : List Int) : Prop := OwnOf 3 zln 1 B w v L
theorem yd7 : (Tryz.prog.info? 3).map (fun i => (i.zero, i.size, i.bytes)) = some (some (.int .i64 0), 1, 8) := by kernel_rfl
structure Cw (w wr : World) (u v : Value) (T : List ByteArray) (W : List Int) : Prop where
 f : B3 wr w.heap.size 0 0 ⟨#[]⟩
 t : OwnT (w.heap.size + 1) wr u T
 n : OwnN (w.heap.size + 1) wr v W
 b : Below w.heap.size w wr
theorem Cw.later {w wr w1 : World} {u v : Value} {T : List ByteArray} {W : List Int} (h : Cw w wr u v T W) (hB : Below wr.heap.size wr w1) : Cw w w1 u v T W :=
 ⟨h.f.later hB, OwnOf.later h.t hB, OwnOf.later h.n hB, zab h.b hB⟩
theorem Cw.putT {w wr w1 : World} {u v u' : Value} {T T' : List ByteArray} {W : List Int} (h : Cw w wr u v T W) (ho : OwnT (w.heap.size + 1) w1 u' T') (hg : wr.grownBy w1 u.ownBlock) : Cw w w1 u' v T' W := by
 have hu := World.ownsRow.lt h.t
 have h0 : u.ownBlock ≠ some w.heap.size := fun e => by have := (hu _ e).1; omega
 exact ⟨h.f.grownB hg h0, ho, OwnOf.apart h.n h.t (by decide) hg, h.b.grown hg h.b.size (fun q hq => by have := (hu q hq).1; omega)⟩
theorem Cw.putN {w wr w1 : World} {u v v' : Value} {T : List ByteArray} {W W' : List Int} (h : Cw w wr u v T W) (ho : OwnN (w.heap.size + 1) w1 v' W') (hg : wr.grownBy w1 v.ownBlock) : Cw w w1 u v' T W' := by
 have hu := World.ownsRow.lt h.n
 have h0 : v.ownBlock ≠ some w.heap.size := fun e => by have := (hu _ e).1; omega
 exact ⟨h.f.grownB hg h0, OwnOf.apart h.t h.n (by decide) hg, ho, h.b.grown hg h.b.size (fun q hq => by have := (hu q hq).1; omega)⟩
theorem Cw.other {w wr w1 : World} {u v : Value} {T : List ByteArray} {W : List Int} {q : Nat} (h : Cw w wr u v T W) (hg : wr.grownBy w1 (some q)) (hq : w.heap.size < q) (hu : ∀ g, u.ownBlock = some g → g ≠ q) (hv : ∀ g, v.ownBlock = some g → g ≠ q) : Cw w w1 u v T W :=
 ⟨h.f.grownB hg (fun e => by injection e with e; omega), World.ownsRow.kept h.t hg (.inr fun e => hu q e rfl), World.ownsRow.kept h.n hg (.inr fun e => hv q e rfl), h.b.grown hg h.b.size (fun p hp => by injection hp with hp; omega)⟩
theorem Cw.lt {w wr : World} {u v : Value} {T : List ByteArray} {W : List Int} (h : Cw w wr u v T W) : (∀ g, u.ownBlock = some g → g ≠ wr.heap.size) ∧ (∀ g, v.ownBlock = some g → g ≠ wr.heap.size) :=
 ⟨fun g e => by have := (World.ownsRow.lt h.t g e).2; omega, fun g e => by have := (World.ownsRow.lt h.n g e).2; omega⟩
def RvP (R : (List ByteArray × List Int) ⊕ V3) (B : Nat) (e : Ending) (w' : World) : Prop :=
 match R with
 | .inl p => ∃ u v, e = .returned (.tuple #[u, v, vOf (0, 0, ⟨#[]⟩), .bool true]) ∧ OwnT B w' u p.1 ∧ OwnN B w' v p.2.dropLast
 | .inr x => e = .returned (.tuple #[.slice none 0 0, .slice none 0 0, vOf x, .bool false])
set_option maxRecDepth 100000 in
set_option maxHeartbeats 12800000 in
theorem zaw (fn : Nat) (ks : ByteArray) (a : Option Addr) (n cap : Nat) (L : List V3) (w : World) (hL : IsV w a n L) (hn : n ≤ ks.size) (hk20 : ks.size ≤ 20) (hks : ∀ c ∈ ks.data.toList, c = 115 ∨ c = 110)
 (hwh : ∀ (k : Nat) (hk : k < ks.size) (W : World), Calls Tryz.prog 162 #[.int .u8 (fn : Int), .int .i64 (k : Int)] W fun e w' => e = .returned (.bool (decide (ks[k] = 110))) ∧ Below W.heap.size W w')
 (hv : ∀ v ∈ L, v.2.2.size ≤ 2000 ∧ InI v.2.1) (hT : Tb w) :
 Calls Tryz.prog 81 #[.int .u8 (fn : Int), .slice a n cap] w fun e w' => RvP (zag ks.data.toList L [] []) (w.heap.size + 1) e w' ∧ Below w.heap.size w w' := by
 have HL := Lib.hid hL
 have HNL := Lib.hid hL.1
 have HKS := Lib.hid hks
 have HWH := Lib.hid hwh
 have HV := Lib.hid hv
 have HT := Lib.hid hT
 have HKL : Hid (ks.data.toList.length = ks.size) := Array.length_toList
 obtain ⟨R, hR⟩ : ∃ R, zag ks.data.toList L [] [] = R := ⟨_, rfl⟩
 rw [hR]
 have HR : Hid (zag (ks.data.toList.drop 0) (L.drop 0) [] [] = R) := by rw [List.drop_zero, List.drop_zero]; exact hR
 clear hL hks hwh hv hT hR
 have HC : Hid (Cw w (w.alloc (.cells #[.int .u8 0, .int .i64 0, .string ⟨#[]⟩] 26)) (.slice none 0 0) (.slice none 0 0) [] []) := ⟨B3.start w 0 0 ⟨#[]⟩, OwnOf.nil _ _ _ _ _, OwnOf.nil _ _ _ _ _, zaa w _⟩
 go_enter Tryz.func81, Tryz.ntmps81
 go_wp2_with fail
 generalize w.alloc (.cells #[.int .u8 0, .int .i64 0, .string ⟨#[]⟩] 26) = w0 at *
 go_loopw [4, 5, 8] (fun u v i wr => ∃ (k : Nat) (T : List ByteArray) (W : List Int), k ≤ n ∧ i = .int .i64 (k : Int) ∧ Hid (Cw w wr u v T W) ∧ Hid (zag (ks.data.toList.drop k) (L.drop k) T W = R) ∧ Hid (T.length ≤ k ∧ W.length ≤ k)) (fun _ _ i _ => n - (intOf i).toNat)
 case atStart => exact ⟨0, [], [], Nat.zero_le _, rfl, HC.out, HR.out, Nat.le_refl _, Nat.le_refl _⟩
 case round =>
  obtain ⟨k, T, W, hk, rfl, HCr, HRr, HLN⟩ := hrel
  clear HC HR
  obtain ⟨ua, uc, rfl, _⟩ := OwnOf.isOf zaq HCr.out.t
  obtain ⟨va, vc, rfl, _⟩ := OwnOf.isOf zap HCr.out.n
  by_cases hlt : k < n
  · have hkl : k < L.length := by rw [HNL.out]; exact hlt
    have hks2 : k < ks.size := by omega
    have hkk : k < ks.data.toList.length := by rw [HKL.out]; exact hks2
    have hst := zlm hkk hkl T W
    rw [HRr.out] at hst
    have hkd := HKS.out _ (List.getElem_mem hkk)
    have hkg : ks.data.toList[k] = ks[k] := rfl
    obtain ⟨hvs, hvi⟩ := HV.out L[k] (List.getElem_mem hkl)
    have HWk := Lib.hid (HWH.out k hks2)
    obtain ⟨b, off, rfl, hbl, c1, c2, c3⟩ := zhs (IsOf.later HL.out HCr.out.b) hkl
    rw [hkg] at hst hkd
    have HIN := Lib.hid (zc6 L[k].1 L[k].2.1 L[k].2.2 hvi)
    have HVr := Lib.hid (zhs (IsOf.later HL.out HCr.out.b) hkl)
    generalize L[k] = vv at *
    obtain ⟨kd, nm, tx⟩ := vv
    dsimp only at c1 c2 c3 hvs hvi HIN
    have HST := Lib.hid hst
    have HLT := Lib.hid HCr.out.lt
    have hq8 : w.heap.size < wr.heap.size := HCr.out.f.lt
    have HTr := Lib.hid (HT.out.later HCr.out.b)
    clear hst HRr hkg HVr
    rcases hkd with hkc | hkc
    · have HCK := Lib.hid (fun W hW => zxu kd nm tx hvs hvi W hW)
      have hck : cvK ks[k] (kd, nm, tx) = cvR 3 kd nm tx := by unfold cvK; rw [hkc]; rfl
      rw [hck, hkc] at HST
      have hdk : decide (ks[k] = 110) = false := by rw [hkc]; rfl
      rw [hdk] at HWk
      clear hck hkc hdk HIN
      generalize cvR 3 kd nm tx = r at *
      obtain ⟨rk, rn, rs⟩ := r
      dsimp only at HCK HST
      go_wp2_with fail
      refine (HWk.out _).mono ?_
      rintro e wq ⟨rfl, hBq⟩
      have hcq := HCr.out.later hBq
      have HCq := Lib.hid hcq
      obtain ⟨b, off, hbe, hbl, c1, c2, c3⟩ := (show ∃ b' off', some (⟨b, off, none⟩ : Addr) = some ⟨b', off', none⟩ ∧ b' < wq.heap.size ∧ wq.cell? ⟨b', off' + k * 3, none⟩ = some (.int .u8 (kd : Int)) ∧ wq.cell? ⟨b', off' + k * 3 + 1, none⟩ = some (.int .i64 nm) ∧ wq.cell? ⟨b', off' + k * 3 + 2, none⟩ = some (.string tx) from
       ⟨b, off, rfl, Nat.lt_of_lt_of_le hbl hBq.size, (hBq.cell (p := ⟨b, off + k * 3, none⟩) hbl).trans c1, (hBq.cell (p := ⟨b, off + k * 3 + 1, none⟩) hbl).trans c2, (hBq.cell (p := ⟨b, off + k * 3 + 2, none⟩) hbl).trans c3⟩)
      cases hbe
      have HTq := Lib.hid (HTr.out.later hBq)
      clear hcq hBq HTr HWk
      go_wp2_with fail
      refine (HCK.out _ HTq.out).mono ?_
      rintro e w1 ⟨rfl, hB1⟩
      have HC1 := Lib.hid (HCq.out.later hB1)
      clear hB1 HCq HTq HCK c1 c2 c3 hbl
      have HX := Lib.hid (B3.start w1 rk rn rs)
      have HC2 := Lib.hid (HC1.out.later (zaa w1 (.cells #[.int .u8 (rk : Int), .int .i64 rn, .string rs] 26)))
      go_upto_region 10 with fail
      clear HC1
      generalize w1.alloc (.cells #[.int .u8 (rk : Int), .int .i64 rn, .string rs] 26) = w2 at *
      obtain ⟨y0, y1, y2, _, _, _⟩ := HX.out.cells
      have hq8l : w1.heap.size < w2.heap.size := HX.out.lt
      obtain ⟨g0, g1, g2, i0, i1, i2⟩ := HC2.out.f.cells
      have hqf : w.heap.size < w2.heap.size := HC2.out.f.lt
      by_cases h4 : rk = 4
      · have hk4 : ((rk : Int) == 4) = true := by rw [h4]; rfl
        have HRR : Hid (R = .inr (rk, rn, rs)) := by rw [HST.out, if_pos h4]; exact rfl
        clear h4
        obtain ⟨hq, hg⟩ := zae HC2.out.f rk rn rs
        have HQ := Lib.hid hq
        have HB4 := Lib.hid (HC2.out.b.grown hg HC2.out.b.size (fun q hq => by injection hq with hq; omega))
        clear hq hg
        go_wp2_with fail
        go_region
        clear y0 y1 y2 g0 g1 g2 i0 i1 i2
        generalize ((w2.setCell ⟨w.heap.size, 0, none⟩ (.int .u8 (rk : Int))).setCell ⟨w.heap.size, 1, none⟩ (.int .i64 rn)).setCell ⟨w.heap.size, 2, none⟩ (.string rs) = w4 at *
        have k2 : B3 w4.drew w.heap.size rk rn rs := HQ.out
        have k3 := Lib.hid HB4.out.drew
        generalize w4.drew = w6 at *
        obtain ⟨y0, y1, y2, _, _, _⟩ := k2.cells
        go_wp2_with fail
        refine bodyPost_ret (v := .tuple #[.slice none 0 0, .slice none 0 0, .agg #[.int .u8 (rk : Int), .int .i64 rn, .string rs], .bool false]) (by simp [results, Tryz.results81, go_sem, y0, y1, y2]) rfl ⟨by rw [HRR.out]; exact rfl, k3.out⟩
      · have hk4 : ((rk : Int) == 4) = false := by simp; omega
        rw [if_neg h4, if_pos trivial] at HST
        have HST2 := Lib.hid HST.out.symm
        have hTl : T.length ≤ 20 := by have := HLN.out.1; omega
        have hWl : W.length ≤ 20 := by have := HLN.out.2; omega
        clear h4 HST
        go_wp2_with (at_builtin; go_loud (refine zdt rfl (.tmp 44) (.tmp 47) 80 rfl Tryz.underlying80 _ 16 zv3 yfj (by decide) (by decide) zaq zlp (w.heap.size + 1) _ T rfl (OwnOf.alloc HC2.out.t _) _ 1 1 [rs] rfl (zcr _ _ _ _ rfl) (by omega) (by simp; omega) ?_; intro v5 w5 ho5 hg5 hr5; have HC5 := Lib.hid ((HC2.out.later (zaa w2 (.cells #[.string rs] 9))).putT ho5 hg5); clear hg5 ho5 hr5))
        exact ⟨⟨k + 1, T ++ [rs], W, by omega, by go_num, HC5.out, HST2.out, by have := HLN.out; unfold Hid; simp; omega⟩, by simp [intOf]; omega⟩
    · have HCK := Lib.hid (fun W hW => zuq kd nm tx hvs hvi W hW)
      have hck : cvK ks[k] (kd, nm, tx) = cvR 1 kd nm tx := by unfold cvK; rw [hkc]; rfl
      rw [hck, hkc] at HST
      have hdk : decide (ks[k] = 110) = true := by rw [hkc]; rfl
      rw [hdk] at HWk
      clear hck hkc hdk
      generalize cvR 1 kd nm tx = r at *
      obtain ⟨rk, rn, rs⟩ := r
      dsimp only at HCK HST HIN
      go_wp2_with fail
      refine (HWk.out _).mono ?_
      rintro e wq ⟨rfl, hBq⟩
      have hcq := HCr.out.later hBq
      have HCq := Lib.hid hcq
      obtain ⟨b, off, hbe, hbl, c1, c2, c3⟩ := (show ∃ b' off', some (⟨b, off, none⟩ : Addr) = some ⟨b', off', none⟩ ∧ b' < wq.heap.size ∧ wq.cell? ⟨b', off' + k * 3, none⟩ = some (.int .u8 (kd : Int)) ∧ wq.cell? ⟨b', off' + k * 3 + 1, none⟩ = some (.int .i64 nm) ∧ wq.cell? ⟨b', off' + k * 3 + 2, none⟩ = some (.string tx) from
       ⟨b, off, rfl, Nat.lt_of_lt_of_le hbl hBq.size, (hBq.cell (p := ⟨b, off + k * 3, none⟩) hbl).trans c1, (hBq.cell (p := ⟨b, off + k * 3 + 1, none⟩) hbl).trans c2, (hBq.cell (p := ⟨b, off + k * 3 + 2, none⟩) hbl).trans c3⟩)
      cases hbe
      have HTq := Lib.hid (HTr.out.later hBq)
      clear hcq hBq HTr HWk
      go_wp2_with fail
      refine (HCK.out _ HTq.out).mono ?_
      rintro e w1 ⟨rfl, hB1⟩
      have HC1 := Lib.hid (HCq.out.later hB1)
      clear hB1 HCq HTq HCK c1 c2 c3 hbl
      have HX := Lib.hid (B3.start w1 rk rn rs)
      have HC2 := Lib.hid (HC1.out.later (zaa w1 (.cells #[.int .u8 (rk : Int), .int .i64 rn, .string rs] 26)))
      go_upto_region 6 with fail
      clear HC1
      generalize w1.alloc (.cells #[.int .u8 (rk : Int), .int .i64 rn, .string rs] 26) = w2 at *
      obtain ⟨y0, y1, y2, _, _, _⟩ := HX.out.cells
      have hq8l : w1.heap.size < w2.heap.size := HX.out.lt
      obtain ⟨g0, g1, g2, i0, i1, i2⟩ := HC2.out.f.cells
      have hqf : w.heap.size < w2.heap.size := HC2.out.f.lt
      by_cases h4 : rk = 4
      · have hk4 : ((rk : Int) == 4) = true := by rw [h4]; rfl
        have HRR : Hid (R = .inr (rk, rn, rs)) := by rw [HST.out, if_pos h4]; exact rfl
        clear h4
        obtain ⟨hq, hg⟩ := zae HC2.out.f rk rn rs
        have HQ := Lib.hid hq
        have HB4 := Lib.hid (HC2.out.b.grown hg HC2.out.b.size (fun q hq => by injection hq with hq; omega))
        clear hq hg
        go_wp2_with fail
        go_region
        clear y0 y1 y2 g0 g1 g2 i0 i1 i2
        generalize ((w2.setCell ⟨w.heap.size, 0, none⟩ (.int .u8 (rk : Int))).setCell ⟨w.heap.size, 1, none⟩ (.int .i64 rn)).setCell ⟨w.heap.size, 2, none⟩ (.string rs) = w4 at *
        have k2 : B3 w4.drew w.heap.size rk rn rs := HQ.out
        have k3 := Lib.hid HB4.out.drew
        generalize w4.drew = w6 at *
        obtain ⟨y0, y1, y2, _, _, _⟩ := k2.cells
        go_wp2_with fail
        refine bodyPost_ret (v := .tuple #[.slice none 0 0, .slice none 0 0, .agg #[.int .u8 (rk : Int), .int .i64 rn, .string rs], .bool false]) (by simp [results, Tryz.results81, go_sem, y0, y1, y2]) rfl ⟨by rw [HRR.out]; exact rfl, k3.out⟩
      · have hk4 : ((rk : Int) == 4) = false := by simp; omega
        rw [if_neg h4, if_neg (by decide)] at HST
        have HST2 := Lib.hid HST.out.symm
        have hTl : T.length ≤ 20 := by have := HLN.out.1; omega
        have hWl : W.length ≤ 20 := by have := HLN.out.2; omega
        clear h4 HST
        have htd := zt4 rn
        have tb1 := Lib.hid HIN.out
        have tb3 := yft HIN.out
        unfold InI at tb3
        have hwq : IntKind.i64.wrap (rn.tdiv 10000) = rn.tdiv 10000 := IntWalk.i64_in _ (by omega)
        rw [htd] at HST2
        clear htd tb3
        go_wp2_with (at_builtin; go_loud (refine zdt rfl (.tmp 29) (.tmp 33) 88 rfl Tryz.underlying88 _ 8 yd7 ybo (by decide) (by decide) zap zhe (w.heap.size + 1) _ W rfl (OwnOf.alloc HC2.out.n _) _ 1 1 [rn.tdiv 10000] rfl (by first | exact zcr _ _ _ _ rfl | exact zcr _ _ _ _ (by rw [hwq]; rfl)) (by omega) (by simp; omega) ?_; intro v5 w5 ho5 hg5 hr5; have HC5 := Lib.hid ((HC2.out.later (zaa w2 (.cells #[.int .i64 (rn.tdiv 10000)] 3))).putN ho5 hg5); clear hg5 ho5 hr5))
        exact ⟨⟨k + 1, T, W ++ [rn.tdiv 10000], by omega, by go_num, HC5.out, HST2.out, by have := HLN.out; unfold Hid; simp; omega⟩, by simp [intOf]; omega⟩
  · obtain rfl : k = n := by omega
    have hend := zog (ks := ks.data.toList) (L := L) (k := k) (by rw [HNL.out]; exact Nat.le_refl _) T W
    rw [HRr.out] at hend
    have HRE := Lib.hid hend
    clear hend HRr
    obtain ⟨x0, x1, x2, z0, z1, z2⟩ := HCr.out.f.cells
    have hXl := HCr.out.f.lt
    obtain ⟨hq, hg⟩ := zae HCr.out.f 0 0 ⟨#[]⟩
    have HN9 := Lib.hid (show OwnT (w.heap.size + 1) (((wr.setCell ⟨w.heap.size, 0, none⟩ (.int .u8 ((0 : Nat) : Int))).setCell ⟨w.heap.size, 1, none⟩ (.int .i64 0)).setCell ⟨w.heap.size, 2, none⟩ (.string ⟨#[]⟩)) (.slice ua T.length uc) T ∧ OwnN (w.heap.size + 1) (((wr.setCell ⟨w.heap.size, 0, none⟩ (.int .u8 ((0 : Nat) : Int))).setCell ⟨w.heap.size, 1, none⟩ (.int .i64 0)).setCell ⟨w.heap.size, 2, none⟩ (.string ⟨#[]⟩)) (.slice va W.length vc) W from
     ⟨World.ownsRow.kept HCr.out.t hg (.inr fun e => by have := (World.ownsRow.lt HCr.out.t _ e).1; omega), World.ownsRow.kept HCr.out.n hg (.inr fun e => by have := (World.ownsRow.lt HCr.out.n _ e).1; omega)⟩)
    have hb5 := HCr.out.b.grown hg HCr.out.b.size (fun q hq => by injection hq with hq; omega)
    clear hg
    go_wp2_with fail
    generalize ((wr.setCell ⟨w.heap.size, 0, none⟩ (.int .u8 ((0 : Nat) : Int))).setCell ⟨w.heap.size, 1, none⟩ (.int .i64 0)).setCell ⟨w.heap.size, 2, none⟩ (.string ⟨#[]⟩) = w5 at *
    obtain ⟨y0, y1, y2, _, _, _⟩ := hq.cells
    refine bodyPost_ret (v := .tuple #[.slice ua T.length uc, .slice va W.length vc, .agg #[.int .u8 0, .int .i64 0, .string ⟨#[]⟩], .bool true]) (by simp [results, Tryz.results81, go_sem, y0, y1, y2]) rfl ⟨by rw [HRE.out]; exact ⟨_, _, rfl, HN9.out.1, by rw [List.dropLast_concat]; exact HN9.out.2⟩, hb5⟩
end Go.Proofs.YtdhahiodnmmkeaaGreatDoor.Va
/- The reference's values of the functions of texts. -/
namespace Go.Proofs.YtdhahiodnmmkeaaGreatDoor.Va
open Go Go.RowKit GM
set_option linter.unusedVariables false
set_option linter.unusedSimpArgs false
set_option maxRecDepth 100000 in
set_option maxHeartbeats 6400000 in
theorem yhm (ta wa0 : Option Addr) (tn tc wn wc : Nat) (T : List ByteArray) (W0 : List Int) (w : World) (hT : IsT w ta tn T) (hW : IsW w wa0 wn W0) (s : ByteArray) (h0 : T[0]? = some s) (hs : s.size ≤ 4096) :
 Calls Tryz.prog 83 #[.int .u8 31, .slice ta tn tc, .slice wa0 wn wc] w fun e w' => e = .returned (vOf (cnV (s.size : Int))) ∧ Below w.heap.size w w' := by
 have HX : Hid (B3 (w.alloc (.cells #[.int .u8 0, .int .i64 0, .string ⟨#[]⟩] 26)) w.heap.size 0 0 ⟨#[]⟩) := B3.start w 0 0 ⟨#[]⟩
 have HB := Lib.hid (zaa w (.cells #[.int .u8 0, .int .i64 0, .string ⟨#[]⟩] 26))
 obtain ⟨nt0, bt0, ot0, ea0, lt0, ct0⟩ := zbb (IsOf.later hT HB.out) h0
 rw [Nat.add_zero] at ct0
 subst ea0
 clear hT hW
 go_enter Tryz.func83, Tryz.ntmps83
 have hw1 : IntKind.i64.wrap ((s.size : Int) * 10000) = (s.size : Int) * 10000 := IntWalk.i64_in _ (by omega)
 obtain ⟨m1, m2⟩ := ya1 (k := (s.size : Int)) (by omega)
 have HMK := Lib.hid (fun W => znh ((s.size : Int) * 10000) (by unfold zau; omega) W)
 rw [m1, m2] at HMK
 clear m1 m2
 go_wp2_with fail
 generalize w.alloc (.cells #[.int .u8 0, .int .i64 0, .string ⟨#[]⟩] 26) = wa at *
 refine (HMK.out _).mono ?_
 rintro e w1 ⟨rfl, hB⟩
 have hX : B3 w1 w.heap.size 0 0 ⟨#[]⟩ := HX.out.later hB
 have HBW := Lib.hid (zab HB.out hB)
 obtain ⟨x0, x1, x2, z0, z1, z2⟩ := hX.cells
 have hXl := hX.lt
 obtain ⟨hq, hg⟩ := zae hX 1 ((s.size : Int) * 10000) ⟨#[]⟩
 have hb5 := HBW.out.grown hg HBW.out.size (fun q hq => by injection hq with hq; omega)
 clear hB hg
 go_wp2_with fail
 generalize ((w1.setCell ⟨w.heap.size, 0, none⟩ (.int .u8 1)).setCell ⟨w.heap.size, 1, none⟩ (.int .i64 ((s.size : Int) * 10000))).setCell ⟨w.heap.size, 2, none⟩ (.string ⟨#[]⟩) = w5 at *
 obtain ⟨y0, y1, y2, _, _, _⟩ := hq.cells
 refine bodyPost_ret (v := .agg #[.int .u8 1, .int .i64 ((s.size : Int) * 10000), .string ⟨#[]⟩]) (by simp [results, Tryz.results83, go_sem, y0, y1, y2]) rfl ⟨rfl, hb5⟩
set_option maxRecDepth 100000 in
set_option maxHeartbeats 6400000 in
theorem yhl (ta wa0 : Option Addr) (tn tc wn wc : Nat) (T : List ByteArray) (W0 : List Int) (w : World) (hT : IsT w ta tn T) (hW : IsW w wa0 wn W0) (s : ByteArray) (h0 : T[0]? = some s) (hs : s.size ≤ 4096) :
 Calls Tryz.prog 83 #[.int .u8 35, .slice ta tn tc, .slice wa0 wn wc] w fun e w' => e = .returned (vOf (txV (upS s))) ∧ Below w.heap.size w w' := by
 have HX : Hid (B3 (w.alloc (.cells #[.int .u8 0, .int .i64 0, .string ⟨#[]⟩] 26)) w.heap.size 0 0 ⟨#[]⟩) := B3.start w 0 0 ⟨#[]⟩
 have HB := Lib.hid (zaa w (.cells #[.int .u8 0, .int .i64 0, .string ⟨#[]⟩] 26))
 obtain ⟨nt0, bt0, ot0, ea0, lt0, ct0⟩ := zbb (IsOf.later hT HB.out) h0
 rw [Nat.add_zero] at ct0
 subst ea0
 clear hT hW
 go_enter Tryz.func83, Tryz.ntmps83
 go_wp2_with fail
 generalize w.alloc (.cells #[.int .u8 0, .int .i64 0, .string ⟨#[]⟩] 26) = wa at *
 refine (zsc s (by unfold maxLen; omega) _).mono ?_
 rintro e w2 ⟨rfl, hB2⟩
 have HX2 := Lib.hid (HX.out.later hB2)
 have HB2 := Lib.hid (zab HB.out hB2)
 clear hB2 HX HB
 have HX := HX2
 have HB := HB2
 clear HX2 HB2
 go_wp2_with fail
 have HV := Lib.hid (fun W => zbn (upS s) W)
 generalize hvv : txV (upS s) = vv at HV
 have HVV := Lib.hid hvv
 clear hvv
 obtain ⟨vk, vn, vs⟩ := vv
 unfold vOf at HV
 dsimp only at HV
 refine (HV.out _).mono ?_
 rintro e w1 ⟨rfl, hB⟩
 have hX : B3 w1 w.heap.size 0 0 ⟨#[]⟩ := HX.out.later hB
 have HBW := Lib.hid (zab HB.out hB)
 obtain ⟨x0, x1, x2, z0, z1, z2⟩ := hX.cells
 have hXl := hX.lt
 obtain ⟨hq, hg⟩ := zae hX vk vn vs
 have hb5 := HBW.out.grown hg HBW.out.size (fun q hq => by injection hq with hq; omega)
 clear hB hg
 go_wp2_with fail
 generalize ((w1.setCell ⟨w.heap.size, 0, none⟩ (.int .u8 (vk : Int))).setCell ⟨w.heap.size, 1, none⟩ (.int .i64 vn)).setCell ⟨w.heap.size, 2, none⟩ (.string vs) = w5 at *
 obtain ⟨y0, y1, y2, _, _, _⟩ := hq.cells
 refine bodyPost_ret (v := .agg #[.int .u8 (vk : Int), .int .i64 vn, .string vs]) (by simp [results, Tryz.results83, go_sem, y0, y1, y2]) rfl ⟨by rw [HVV.out]; rfl, hb5⟩
set_option maxRecDepth 100000 in
set_option maxHeartbeats 6400000 in
theorem yhk (ta wa0 : Option Addr) (tn tc wn wc : Nat) (T : List ByteArray) (W0 : List Int) (w : World) (hT : IsT w ta tn T) (hW : IsW w wa0 wn W0) (s : ByteArray) (h0 : T[0]? = some s) (hs : s.size ≤ 4096) :
 Calls Tryz.prog 83 #[.int .u8 36, .slice ta tn tc, .slice wa0 wn wc] w fun e w' => e = .returned (vOf (txV (loS s))) ∧ Below w.heap.size w w' := by
 have HX : Hid (B3 (w.alloc (.cells #[.int .u8 0, .int .i64 0, .string ⟨#[]⟩] 26)) w.heap.size 0 0 ⟨#[]⟩) := B3.start w 0 0 ⟨#[]⟩
 have HB := Lib.hid (zaa w (.cells #[.int .u8 0, .int .i64 0, .string ⟨#[]⟩] 26))
 obtain ⟨nt0, bt0, ot0, ea0, lt0, ct0⟩ := zbb (IsOf.later hT HB.out) h0
 rw [Nat.add_zero] at ct0
 subst ea0
 clear hT hW
 go_enter Tryz.func83, Tryz.ntmps83
 go_wp2_with fail
 generalize w.alloc (.cells #[.int .u8 0, .int .i64 0, .string ⟨#[]⟩] 26) = wa at *
 refine (zsf s (by unfold maxLen; omega) _).mono ?_
 rintro e w2 ⟨rfl, hB2⟩
 have HX2 := Lib.hid (HX.out.later hB2)
 have HB2 := Lib.hid (zab HB.out hB2)
 clear hB2 HX HB
 have HX := HX2
 have HB := HB2
 clear HX2 HB2
 go_wp2_with fail
 have HV := Lib.hid (fun W => zbn (loS s) W)
 generalize hvv : txV (loS s) = vv at HV
 have HVV := Lib.hid hvv
 clear hvv
 obtain ⟨vk, vn, vs⟩ := vv
 unfold vOf at HV
 dsimp only at HV
 refine (HV.out _).mono ?_
 rintro e w1 ⟨rfl, hB⟩
 have hX : B3 w1 w.heap.size 0 0 ⟨#[]⟩ := HX.out.later hB
 have HBW := Lib.hid (zab HB.out hB)
 obtain ⟨x0, x1, x2, z0, z1, z2⟩ := hX.cells
 have hXl := hX.lt
 obtain ⟨hq, hg⟩ := zae hX vk vn vs
 have hb5 := HBW.out.grown hg HBW.out.size (fun q hq => by injection hq with hq; omega)
 clear hB hg
 go_wp2_with fail
 generalize ((w1.setCell ⟨w.heap.size, 0, none⟩ (.int .u8 (vk : Int))).setCell ⟨w.heap.size, 1, none⟩ (.int .i64 vn)).setCell ⟨w.heap.size, 2, none⟩ (.string vs) = w5 at *
 obtain ⟨y0, y1, y2, _, _, _⟩ := hq.cells
 refine bodyPost_ret (v := .agg #[.int .u8 (vk : Int), .int .i64 vn, .string vs]) (by simp [results, Tryz.results83, go_sem, y0, y1, y2]) rfl ⟨by rw [HVV.out]; rfl, hb5⟩
set_option maxRecDepth 100000 in
set_option maxHeartbeats 6400000 in
theorem yhj (ta wa0 : Option Addr) (tn tc wn wc : Nat) (T : List ByteArray) (W0 : List Int) (w : World) (hT : IsT w ta tn T) (hW : IsW w wa0 wn W0) (s : ByteArray) (h0 : T[0]? = some s) (hs : s.size ≤ 4000) :
 Calls Tryz.prog 83 #[.int .u8 37, .slice ta tn tc, .slice wa0 wn wc] w fun e w' => e = .returned (vOf (txV (trimS s))) ∧ Below w.heap.size w w' := by
 have HX : Hid (B3 (w.alloc (.cells #[.int .u8 0, .int .i64 0, .string ⟨#[]⟩] 26)) w.heap.size 0 0 ⟨#[]⟩) := B3.start w 0 0 ⟨#[]⟩
 have HB := Lib.hid (zaa w (.cells #[.int .u8 0, .int .i64 0, .string ⟨#[]⟩] 26))
 obtain ⟨nt0, bt0, ot0, ea0, lt0, ct0⟩ := zbb (IsOf.later hT HB.out) h0
 rw [Nat.add_zero] at ct0
 subst ea0
 clear hT hW
 go_enter Tryz.func83, Tryz.ntmps83
 go_wp2_with fail
 generalize w.alloc (.cells #[.int .u8 0, .int .i64 0, .string ⟨#[]⟩] 26) = wa at *
 refine (zng s hs _).mono ?_
 rintro e w2 ⟨rfl, hB2⟩
 rw [show str (trim s.data.toList) = trimS s from rfl]
 have HX2 := Lib.hid (HX.out.later hB2)
 have HB2 := Lib.hid (zab HB.out hB2)
 clear hB2 HX HB
 have HX := HX2
 have HB := HB2
 clear HX2 HB2
 go_wp2_with fail
 have HV := Lib.hid (fun W => zbn (trimS s) W)
 generalize hvv : txV (trimS s) = vv at HV
 have HVV := Lib.hid hvv
 clear hvv
 obtain ⟨vk, vn, vs⟩ := vv
 unfold vOf at HV
 dsimp only at HV
 refine (HV.out _).mono ?_
 rintro e w1 ⟨rfl, hB⟩
 have hX : B3 w1 w.heap.size 0 0 ⟨#[]⟩ := HX.out.later hB
 have HBW := Lib.hid (zab HB.out hB)
 obtain ⟨x0, x1, x2, z0, z1, z2⟩ := hX.cells
 have hXl := hX.lt
 obtain ⟨hq, hg⟩ := zae hX vk vn vs
 have hb5 := HBW.out.grown hg HBW.out.size (fun q hq => by injection hq with hq; omega)
 clear hB hg
 go_wp2_with fail
 generalize ((w1.setCell ⟨w.heap.size, 0, none⟩ (.int .u8 (vk : Int))).setCell ⟨w.heap.size, 1, none⟩ (.int .i64 vn)).setCell ⟨w.heap.size, 2, none⟩ (.string vs) = w5 at *
 obtain ⟨y0, y1, y2, _, _, _⟩ := hq.cells
 refine bodyPost_ret (v := .agg #[.int .u8 (vk : Int), .int .i64 vn, .string vs]) (by simp [results, Tryz.results83, go_sem, y0, y1, y2]) rfl ⟨by rw [HVV.out]; rfl, hb5⟩
set_option maxRecDepth 100000 in
set_option maxHeartbeats 6400000 in
theorem yhe (ta wa0 : Option Addr) (tn tc wn wc : Nat) (T : List ByteArray) (W0 : List Int) (w : World) (hT : IsT w ta tn T) (hW : IsW w wa0 wn W0) (s : ByteArray) (h0 : T[0]? = some s) (hs : s.size ≤ 256) (hTb : Tb w) :
 Calls Tryz.prog 83 #[.int .u8 42, .slice ta tn tc, .slice wa0 wn wc] w fun e w' => e = .returned (vOf (cvR 1 (txV s).1 (txV s).2.1 (txV s).2.2)) ∧ Below w.heap.size w w' := by
 have HX : Hid (B3 (w.alloc (.cells #[.int .u8 0, .int .i64 0, .string ⟨#[]⟩] 26)) w.heap.size 0 0 ⟨#[]⟩) := B3.start w 0 0 ⟨#[]⟩
 have HB := Lib.hid (zaa w (.cells #[.int .u8 0, .int .i64 0, .string ⟨#[]⟩] 26))
 obtain ⟨nt0, bt0, ot0, ea0, lt0, ct0⟩ := zbb (IsOf.later hT HB.out) h0
 rw [Nat.add_zero] at ct0
 subst ea0
 clear hT hW
 go_enter Tryz.func83, Tryz.ntmps83
 go_wp2_with fail
 generalize w.alloc (.cells #[.int .u8 0, .int .i64 0, .string ⟨#[]⟩] 26) = wa at *
 have HTB := Lib.hid hTb
 clear hTb
 have HTX : Hid (cvR 1 (txV s).1 (txV s).2.1 (txV s).2.2 = cvR 1 3 0 s) := by unfold Hid; rw [show txV s = (3, 0, s) from if_neg (by omega)]
 have HTN := Lib.hid (fun W (hW : Below w.heap.size w W) => zuq 3 0 s (by omega) (by unfold InI; decide) W (HTB.out.later hW))
 obtain ⟨rr, hr⟩ : ∃ r, cvR 1 3 0 s = r := ⟨_, rfl⟩
 rw [hr] at HTN
 have HRR := Lib.hid hr
 clear hr
 obtain ⟨vk, vn, vs⟩ := rr
 dsimp only at HTN
 refine (HTN.out _ HB.out).mono ?_
 rintro e w1 ⟨rfl, hB⟩
 have hX : B3 w1 w.heap.size 0 0 ⟨#[]⟩ := HX.out.later hB
 have HBW := Lib.hid (zab HB.out hB)
 obtain ⟨x0, x1, x2, z0, z1, z2⟩ := hX.cells
 have hXl := hX.lt
 obtain ⟨hq, hg⟩ := zae hX vk vn vs
 have hb5 := HBW.out.grown hg HBW.out.size (fun q hq => by injection hq with hq; omega)
 clear hB hg
 go_wp2_with fail
 generalize ((w1.setCell ⟨w.heap.size, 0, none⟩ (.int .u8 (vk : Int))).setCell ⟨w.heap.size, 1, none⟩ (.int .i64 vn)).setCell ⟨w.heap.size, 2, none⟩ (.string vs) = w5 at *
 obtain ⟨y0, y1, y2, _, _, _⟩ := hq.cells
 refine bodyPost_ret (v := .agg #[.int .u8 (vk : Int), .int .i64 vn, .string vs]) (by simp [results, Tryz.results83, go_sem, y0, y1, y2]) rfl ⟨by rw [HTX.out, HRR.out]; rfl, hb5⟩
theorem zs4 (T : List ByteArray) (k : Nat) (hk : k < T.length) : zc3 (T.take k) ++ T[k] = zc3 (T.take (k + 1)) := by
 apply zgm
 unfold zc3
 rw [zge, zge, List.take_succ_eq_append_getElem hk, List.map_append, List.flatten_append]
 simp
set_option maxRecDepth 100000 in
set_option maxHeartbeats 6400000 in
theorem yhi (ta wa0 : Option Addr) (tn tc wn wc : Nat) (T : List ByteArray) (W0 : List Int) (w : World) (hT : IsT w ta tn T) (hW : IsW w wa0 wn W0) (hz : ∀ t ∈ T, t.size ≤ 256) (hn : tn ≤ 20) :
 Calls Tryz.prog 83 #[.int .u8 38, .slice ta tn tc, .slice wa0 wn wc] w fun e w' => e = .returned (vOf (txV (zc3 T))) ∧ Below w.heap.size w w' := by
 have HX : Hid (B3 (w.alloc (.cells #[.int .u8 0, .int .i64 0, .string ⟨#[]⟩] 26)) w.heap.size 0 0 ⟨#[]⟩) := B3.start w 0 0 ⟨#[]⟩
 have HB := Lib.hid (zaa w (.cells #[.int .u8 0, .int .i64 0, .string ⟨#[]⟩] 26))
 have HT := Lib.hid hT
 have HZ := Lib.hid hz
 have HTL := Lib.hid hT.1
 clear hT hW hz
 go_enter Tryz.func83, Tryz.ntmps83
 go_wp2_with fail
 generalize w.alloc (.cells #[.int .u8 0, .int .i64 0, .string ⟨#[]⟩] 26) = wa at *
 go_loopw [7, 8] (fun u i wr => ∃ k : Nat, k ≤ tn ∧ u = .string (zc3 (T.take k)) ∧ i = .int .i64 (k : Int) ∧ wr = wa) (fun _ i _ => tn - (intOf i).toNat)
 case atStart => exact ⟨0, Nat.zero_le _, rfl, rfl, rfl⟩
 case round =>
  obtain ⟨k, hk, rfl, rfl, rfl⟩ := hrel
  by_cases hlt : k < tn
  · have hkl : k < T.length := by rw [HTL.out]; exact hlt
    obtain ⟨nt0, bt0, ot0, ea0, lt0, ct0⟩ := zbb (IsOf.later HT.out HB.out) (List.getElem?_eq_getElem hkl)
    subst ea0
    have h1 := zrk (T.take k) (fun t ht => HZ.out t (List.mem_of_mem_take ht))
    have h2 := HZ.out _ (List.getElem_mem hkl)
    rw [List.length_take] at h1
    have hadd := fun W => run_string_add_sum (P := Tryz.prog) W (zc3 (T.take k)) T[k] (by omega)
    rw [zs4 T k hkl] at hadd
    obtain ⟨R, HR⟩ : ∃ R, Hid (zc3 (T.take (k + 1)) = R) := ⟨_, rfl⟩
    rw [HR.out] at hadd
    clear h1 h2
    generalize T[k] = tk at *
    generalize zc3 (T.take k) = J at *
    go_wp2_with fail
    exact ⟨⟨k + 1, by omega, by rw [HR.out], by go_num, trivial⟩, by simp [intOf]; omega⟩
  · have HE : Hid (zc3 T = zc3 (T.take k)) := by unfold Hid; rw [List.take_of_length_le (by rw [HTL.out]; omega)]
    generalize zc3 (T.take k) = J at *
    clear hk
    go_wp2_with fail
    have HV := Lib.hid (fun W => zbn J W)
    generalize hvv : txV J = vv at HV
    have HVV := Lib.hid hvv
    clear hvv
    obtain ⟨vk, vn, vs⟩ := vv
    unfold vOf at HV
    dsimp only at HV
    refine (HV.out _).mono ?_
    rintro e w1 ⟨rfl, hB⟩
    have hX : B3 w1 w.heap.size 0 0 ⟨#[]⟩ := HX.out.later hB
    have HBW := Lib.hid (zab HB.out hB)
    obtain ⟨x0, x1, x2, z0, z1, z2⟩ := hX.cells
    have hXl := hX.lt
    obtain ⟨hq, hg⟩ := zae hX vk vn vs
    have hb5 := HBW.out.grown hg HBW.out.size (fun q hq => by injection hq with hq; omega)
    clear hB hg
    go_wp2_with fail
    generalize ((w1.setCell ⟨w.heap.size, 0, none⟩ (.int .u8 (vk : Int))).setCell ⟨w.heap.size, 1, none⟩ (.int .i64 vn)).setCell ⟨w.heap.size, 2, none⟩ (.string vs) = w5 at *
    obtain ⟨y0, y1, y2, _, _, _⟩ := hq.cells
    refine bodyPost_ret (v := .agg #[.int .u8 (vk : Int), .int .i64 vn, .string vs]) (by simp [results, Tryz.results83, go_sem, y0, y1, y2]) rfl ⟨by rw [HE.out, HVV.out]; rfl, hb5⟩
set_option maxRecDepth 100000 in
set_option maxHeartbeats 6400000 in
theorem yhh (ta wa0 : Option Addr) (tn tc wn wc : Nat) (T : List ByteArray) (W0 : List Int) (w : World) (hT : IsT w ta tn T) (hW : IsW w wa0 wn W0) (s : ByteArray) (h0 : T[0]? = some s) (hs : s.size ≤ 4096) (n : Int) (j0 : W0[0]? = some n) (hn : n ≤ 9223372036854775807) :
 Calls Tryz.prog 83 #[.int .u8 39, .slice ta tn tc, .slice wa0 wn wc] w fun e w' => e = .returned (vOf (zdh s n)) ∧ Below w.heap.size w w' := by
 have HX : Hid (B3 (w.alloc (.cells #[.int .u8 0, .int .i64 0, .string ⟨#[]⟩] 26)) w.heap.size 0 0 ⟨#[]⟩) := B3.start w 0 0 ⟨#[]⟩
 have HB := Lib.hid (zaa w (.cells #[.int .u8 0, .int .i64 0, .string ⟨#[]⟩] 26))
 obtain ⟨nt0, bt0, ot0, ea0, lt0, ct0⟩ := zbb (IsOf.later hT HB.out) h0
 obtain ⟨nw0, bw0, ow0, eb0, lw0, cw0⟩ := zd8 (IsOf.later hW HB.out) j0
 rw [Nat.add_zero] at ct0
 rw [Nat.add_zero] at cw0
 subst ea0
 subst eb0
 clear hT hW
 go_enter Tryz.func83, Tryz.ntmps83
 go_wp2_with fail
 generalize w.alloc (.cells #[.int .u8 0, .int .i64 0, .string ⟨#[]⟩] 26) = wa at *
 have HV := Lib.hid (fun W => zus s n hn hs W)
 generalize hvv : zdh s n = vv at HV
 have HVV := Lib.hid hvv
 clear hvv
 obtain ⟨vk, vn, vs⟩ := vv
 unfold vOf at HV
 dsimp only at HV
 go_region_law (first
  | (go_simp; refine (HV.out _).mono ?_; rintro e w1 ⟨rfl, hB⟩; have hX : B3 w1 w.heap.size 0 0 ⟨#[]⟩ := B3.later (w := wa.drew) HX.out hB; have HBW := Lib.hid (zab HB.out.drew hB); obtain ⟨x0, x1, x2, z0, z1, z2⟩ := hX.cells; have hXl := hX.lt; obtain ⟨hq, hg⟩ := zae hX vk vn vs; have HQ := Lib.hid hq; have HB5 := Lib.hid (HBW.out.grown hg HBW.out.size (fun q hq => by injection hq with hq; omega)); clear hB hg hq)
  | fail)
 all_goals
  go_wp2_with fail
  generalize ((w1.setCell ⟨w.heap.size, 0, none⟩ (.int .u8 (vk : Int))).setCell ⟨w.heap.size, 1, none⟩ (.int .i64 vn)).setCell ⟨w.heap.size, 2, none⟩ (.string vs) = w5 at *
  obtain ⟨y0, y1, y2, _, _, _⟩ := HQ.out.cells
  refine bodyPost_ret (v := .agg #[.int .u8 (vk : Int), .int .i64 vn, .string vs]) (by simp [results, Tryz.results83, go_sem, y0, y1, y2]) rfl ⟨by rw [HVV.out]; rfl, HB5.out⟩
set_option maxRecDepth 100000 in
set_option maxHeartbeats 6400000 in
theorem yhg (ta wa0 : Option Addr) (tn tc wn wc : Nat) (T : List ByteArray) (W0 : List Int) (w : World) (hT : IsT w ta tn T) (hW : IsW w wa0 wn W0) (s t : ByteArray) (h0 : T[0]? = some s) (h1 : T[1]? = some t) :
 Calls Tryz.prog 83 #[.int .u8 40, .slice ta tn tc, .slice wa0 wn wc] w fun e w' => e = .returned (vOf (zjx s t)) ∧ Below w.heap.size w w' := by
 have HX : Hid (B3 (w.alloc (.cells #[.int .u8 0, .int .i64 0, .string ⟨#[]⟩] 26)) w.heap.size 0 0 ⟨#[]⟩) := B3.start w 0 0 ⟨#[]⟩
 have HB := Lib.hid (zaa w (.cells #[.int .u8 0, .int .i64 0, .string ⟨#[]⟩] 26))
 obtain ⟨nt0, bt0, ot0, ea0, lt0, ct0⟩ := zbb (IsOf.later hT HB.out) h0
 obtain ⟨nt1, bt1, ot1, ea1, lt1, ct1⟩ := zbb (IsOf.later hT HB.out) h1
 rw [Nat.add_zero] at ct0
 subst ea0
 cases ea1
 have ix1 : (1 : Int) < (tn : Int) := by omega
 clear hT hW
 go_enter Tryz.func83, Tryz.ntmps83
 go_wp2_with fail
 generalize w.alloc (.cells #[.int .u8 0, .int .i64 0, .string ⟨#[]⟩] 26) = wa at *
 have HV := Lib.hid (fun W => zse (decide (s = t)) W)
 obtain ⟨vn, hvn⟩ : ∃ x, b2i (decide (s = t)) = x := ⟨_, rfl⟩
 rw [hvn] at HV
 have HVV : Hid (zjx s t = (2, vn, ⟨#[]⟩)) := by unfold Hid zjx; rw [hvn]
 clear hvn
 have hel := yc2 s t
 go_region_law (first
  | (go_simp; refine (HV.out _).mono ?_; rintro e w1 ⟨rfl, hB⟩; have hX : B3 w1 w.heap.size 0 0 ⟨#[]⟩ := B3.later (w := wa.drew) HX.out hB; have HBW := Lib.hid (zab HB.out.drew hB); obtain ⟨x0, x1, x2, z0, z1, z2⟩ := hX.cells; have hXl := hX.lt; obtain ⟨hq, hg⟩ := zae hX 2 vn ⟨#[]⟩; have HQ := Lib.hid hq; have HB5 := Lib.hid (HBW.out.grown hg HBW.out.size (fun q hq => by injection hq with hq; omega)); clear hB hg hq)
  | fail)
 all_goals
  go_wp2_with fail
  generalize ((w1.setCell ⟨w.heap.size, 0, none⟩ (.int .u8 2)).setCell ⟨w.heap.size, 1, none⟩ (.int .i64 vn)).setCell ⟨w.heap.size, 2, none⟩ (.string ⟨#[]⟩) = w5 at *
  obtain ⟨y0, y1, y2, _, _, _⟩ := HQ.out.cells
  refine bodyPost_ret (v := .agg #[.int .u8 2, .int .i64 vn, .string ⟨#[]⟩]) (by simp [results, Tryz.results83, go_sem, y0, y1, y2]) rfl ⟨by rw [HVV.out]; rfl, HB5.out⟩
set_option maxRecDepth 100000 in
set_option maxHeartbeats 6400000 in
theorem yhf (ta wa0 : Option Addr) (tn tc wn wc : Nat) (T : List ByteArray) (W0 : List Int) (w : World) (hT : IsT w ta tn T) (hW : IsW w wa0 wn W0) (s t : ByteArray) (h0 : T[0]? = some s) (h1 : T[1]? = some t) (hs : s.size ≤ 4096) (ht : t.size ≤ 4096) (n : Int) (hn : n ≤ 9223372036854775807) (hW0 : (W0 = [] ∧ n = 1) ∨ W0[0]? = some n) (hwn : wn ≤ 20) :
 Calls Tryz.prog 83 #[.int .u8 41, .slice ta tn tc, .slice wa0 wn wc] w fun e w' => e = .returned (vOf (zea s t n)) ∧ Below w.heap.size w w' := by
 have HX : Hid (B3 (w.alloc (.cells #[.int .u8 0, .int .i64 0, .string ⟨#[]⟩] 26)) w.heap.size 0 0 ⟨#[]⟩) := B3.start w 0 0 ⟨#[]⟩
 have HB := Lib.hid (zaa w (.cells #[.int .u8 0, .int .i64 0, .string ⟨#[]⟩] 26))
 obtain ⟨nt0, bt0, ot0, ea0, lt0, ct0⟩ := zbb (IsOf.later hT HB.out) h0
 obtain ⟨nt1, bt1, ot1, ea1, lt1, ct1⟩ := zbb (IsOf.later hT HB.out) h1
 rw [Nat.add_zero] at ct0
 subst ea0
 cases ea1
 have ix1 : (1 : Int) < (tn : Int) := by omega
 have HWW := Lib.hid (IsOf.later hW HB.out)
 have HW0 := Lib.hid hW0
 clear hT hW hW0
 go_enter Tryz.func83, Tryz.ntmps83
 go_upto_if 79 with (fail)
 generalize w.alloc (.cells #[.int .u8 0, .int .i64 0, .string ⟨#[]⟩] 26) = wa at *
 go_cut [9] (fun z wx => z = .int .i64 n ∧ wx = wa)
 case first =>
  rcases HW0.out with ⟨rfl, rfl⟩ | m1
  · obtain rfl : wn = 0 := HWW.out.1.symm
    go_wp2_with fail
    go_meet
    case rel => exact ⟨rfl, rfl⟩
  · obtain ⟨nw0, bw0, ow0, eb0, lw0, cw0⟩ := zd8 HWW.out m1
    subst eb0
    rw [Nat.add_zero] at cw0
    go_wp2_with fail
    go_meet
    case rel => exact ⟨rfl, rfl⟩
 case rest =>
  obtain ⟨rfl, rfl⟩ := hcut
  clear HWW HW0
  go_wp2_with fail
  have HV := Lib.hid (fun W => zuw s t n hn hs ht W)
  generalize hvv : zea s t n = vv at HV
  have HVV := Lib.hid hvv
  clear hvv
  obtain ⟨vk, vn, vs⟩ := vv
  unfold vOf at HV
  dsimp only at HV
  go_region_law (first
   | (go_simp; refine (HV.out _).mono ?_; rintro e w1 ⟨rfl, hB⟩; have hX : B3 w1 w.heap.size 0 0 ⟨#[]⟩ := B3.later (w := wc.drew) HX.out hB; have HBW := Lib.hid (zab HB.out.drew hB); obtain ⟨x0, x1, x2, z0, z1, z2⟩ := hX.cells; have hXl := hX.lt; obtain ⟨hq, hg⟩ := zae hX vk vn vs; have HQ := Lib.hid hq; have HB5 := Lib.hid (HBW.out.grown hg HBW.out.size (fun q hq => by injection hq with hq; omega)); clear hB hg hq)
   | fail)
  all_goals
   go_wp2_with fail
   generalize ((w1.setCell ⟨w.heap.size, 0, none⟩ (.int .u8 (vk : Int))).setCell ⟨w.heap.size, 1, none⟩ (.int .i64 vn)).setCell ⟨w.heap.size, 2, none⟩ (.string vs) = w5 at *
   obtain ⟨y0, y1, y2, _, _, _⟩ := HQ.out.cells
   refine bodyPost_ret (v := .agg #[.int .u8 (vk : Int), .int .i64 vn, .string vs]) (by simp [results, Tryz.results83, go_sem, y0, y1, y2]) rfl ⟨by rw [HVV.out]; rfl, HB5.out⟩
end Go.Proofs.YtdhahiodnmmkeaaGreatDoor.Va
/- The reference's Call of a function of texts. -/
namespace Go.Proofs.YtdhahiodnmmkeaaGreatDoor.Va
open Go Go.RowKit GM
set_option linter.unusedVariables false
set_option linter.unusedSimpArgs false
theorem za1 : ∀ (ks : List UInt8) (L : List V3) (T : List ByteArray) (W : List Int) (T' : List ByteArray) (W' : List Int), zag ks L T W = .inl (T', W') → ∃ W0, W' = W0 ++ [1]
 | [], L, T, W, T', W', h => by
  have e : zag [] L T W = .inl (T, W ++ [1]) := by cases L <;> rfl
  rw [e] at h
  injection h with h
  injection h with h1 h2
  exact ⟨W, h2.symm⟩
 | c :: cs, [], T, W, T', W', h => by
  have e : zag (c :: cs) [] T W = .inl (T, W ++ [1]) := rfl
  rw [e] at h
  injection h with h
  injection h with h1 h2
  exact ⟨W, h2.symm⟩
 | c :: cs, v :: L, T, W, T', W', h => by
  have e : zag (c :: cs) (v :: L) T W = if (cvK c v).1 = 4 then .inr (cvK c v) else if c = 115 then zag cs L (T ++ [(cvK c v).2.2]) W else zag cs L T (W ++ [(zbv (cvK c v).2.1).tdiv 10000]) := rfl
  rw [e] at h
  split at h
  · cases h
  · split at h
    · exact za1 cs L _ _ T' W' h
    · exact za1 cs L _ _ T' W' h
theorem last_at {W0 : List Int} (h : 1 ≤ W0.length) : W0[0]? = some (n0 (W0 ++ [1])) := by
 unfold n0
 rw [List.getD_eq_getElem?_getD, List.getElem?_append_left (by omega), List.getElem?_eq_getElem (by omega)]; rfl
theorem zyt {W0 : List Int} (h : 2 ≤ W0.length) : W0[1]? = some (n1 (W0 ++ [1])) := by
 unfold n1
 rw [List.getD_eq_getElem?_getD, List.getElem?_append_left (by omega), List.getElem?_eq_getElem (by omega)]; rfl
theorem zmh (W0 : List Int) : (W0 = [] ∧ n0 (W0 ++ [1]) = 1) ∨ W0[0]? = some (n0 (W0 ++ [1])) := by
 cases W0 with
 | nil => exact .inl ⟨rfl, rfl⟩
 | cons x l => exact .inr (last_at (by simp))
set_option maxHeartbeats 3200000 in
theorem zsi (fn : Nat) (hf : fn < 31 ∨ 42 < fn) (a : Option Addr) (n cap : Nat) (w : World) :
 Calls Tryz.prog 38 #[.int .u8 (fn : Int), .slice a n cap] w fun e w' => e = .returned (.tuple #[.agg #[.int .u8 0, .int .i64 0, .string ⟨#[]⟩], .int .i64 10]) ∧ Below w.heap.size w w' := by
 have HX : Hid (B3 (w.alloc (.cells #[.int .u8 0, .int .i64 0, .string ⟨#[]⟩] 26)) w.heap.size 0 0 ⟨#[]⟩) := B3.start w 0 0 ⟨#[]⟩
 have HB := Lib.hid (zaa w (.cells #[.int .u8 0, .int .i64 0, .string ⟨#[]⟩] 26))
 by_cases h1 : fn < 31
 · have d1 : decide ((fn : Int) < 31) = true := by simp; omega
   go_enter Tryz.func38, Tryz.ntmps38
   go_wp2_with fail
   refine bodyPost_ret (v := .tuple #[.agg #[.int .u8 0, .int .i64 0, .string ⟨#[]⟩], .int .i64 10]) (by simp [results, Tryz.results38, go_sem]) rfl ⟨rfl, HB.out⟩
 · have d1 : decide ((fn : Int) < 31) = false := by simp; omega
   have d2 : decide ((42 : Int) < (fn : Int)) = true := by simp; omega
   go_enter Tryz.func38, Tryz.ntmps38
   go_wp2_with fail
   refine bodyPost_ret (v := .tuple #[.agg #[.int .u8 0, .int .i64 0, .string ⟨#[]⟩], .int .i64 10]) (by simp [results, Tryz.results38, go_sem]) rfl ⟨rfl, HB.out⟩
set_option maxHeartbeats 3200000 in
theorem zpb (fn : Nat) (hf1 : 31 ≤ fn) (hf2 : fn ≤ 42) (a : Option Addr) (n cap : Nat) (hn : n ≤ 20) (hc : ¬ ((arV fn).1 ≤ n ∧ n ≤ (arV fn).2)) (w : World) :
 Calls Tryz.prog 38 #[.int .u8 (fn : Int), .slice a n cap] w fun e w' => e = .returned (.tuple #[.agg #[.int .u8 0, .int .i64 0, .string ⟨#[]⟩], .int .i64 11]) ∧ Below w.heap.size w w' := by
 have HX : Hid (B3 (w.alloc (.cells #[.int .u8 0, .int .i64 0, .string ⟨#[]⟩] 26)) w.heap.size 0 0 ⟨#[]⟩) := B3.start w 0 0 ⟨#[]⟩
 have HB := Lib.hid (zaa w (.cells #[.int .u8 0, .int .i64 0, .string ⟨#[]⟩] 26))
 have d1 : decide ((fn : Int) < 31) = false := by simp; omega
 have d2 : decide ((42 : Int) < (fn : Int)) = false := by simp; omega
 have HCN := Lib.hid (fun W => zaz fn n (by omega) W (zqw fn hf1 hf2))
 rw [decide_eq_false hc] at HCN
 go_enter Tryz.func38, Tryz.ntmps38
 go_wp2_with fail
 generalize w.alloc (.cells #[.int .u8 0, .int .i64 0, .string ⟨#[]⟩] 26) = wa at *
 refine (HCN.out _).mono ?_
 rintro e w1 ⟨rfl, hB1⟩
 have HX1 := Lib.hid (HX.out.later hB1)
 have HB1 := Lib.hid (zab HB.out hB1)
 clear hB1 HX HB
 have hX3 := HX1.out
 have HB3 := HB1
 obtain ⟨x0, x1, x2, z0, z1, z2⟩ := hX3.cells
 have hXl := hX3.lt
 obtain ⟨hq, hg⟩ := zae hX3 0 0 ⟨#[]⟩
 have hb5 := HB3.out.grown hg HB3.out.size (fun q hq => by injection hq with hq; omega)
 clear hg
 go_wp2_with fail
 generalize ((w1.setCell ⟨w.heap.size, 0, none⟩ (.int .u8 0)).setCell ⟨w.heap.size, 1, none⟩ (.int .i64 0)).setCell ⟨w.heap.size, 2, none⟩ (.string ⟨#[]⟩) = w5 at *
 obtain ⟨v0, v1, v2, _, _, _⟩ := hq.cells
 refine bodyPost_ret (v := .tuple #[.agg #[.int .u8 0, .int .i64 0, .string ⟨#[]⟩], .int .i64 11]) (by simp [results, Tryz.results38, go_sem, v0, v1, v2]) rfl ⟨rfl, hb5⟩
set_option maxHeartbeats 3200000 in
theorem zuz (fn : Nat) (hf1 : 31 ≤ fn) (hf2 : fn ≤ 42) (a : Option Addr) (n cap : Nat) (L : List V3) (hn : n ≤ 20) (hc : (arV fn).1 ≤ n ∧ n ≤ (arV fn).2) (w : World) (hL : IsV w a n L) (hv : ∀ v ∈ L, v.2.2.size ≤ 2000 ∧ InI v.2.1) (hb : okL L = false) :
 Calls Tryz.prog 38 #[.int .u8 (fn : Int), .slice a n cap] w fun e w' => e = .returned (.tuple #[.agg #[.int .u8 0, .int .i64 0, .string ⟨#[]⟩], .int .i64 2]) ∧ Below w.heap.size w w' := by
 have HX : Hid (B3 (w.alloc (.cells #[.int .u8 0, .int .i64 0, .string ⟨#[]⟩] 26)) w.heap.size 0 0 ⟨#[]⟩) := B3.start w 0 0 ⟨#[]⟩
 have HB := Lib.hid (zaa w (.cells #[.int .u8 0, .int .i64 0, .string ⟨#[]⟩] 26))
 have d1 : decide ((fn : Int) < 31) = false := by simp; omega
 have d2 : decide ((42 : Int) < (fn : Int)) = false := by simp; omega
 have HCN := Lib.hid (fun W => zaz fn n (by omega) W (zqw fn hf1 hf2))
 rw [decide_eq_true hc] at HCN
 have HVA := Lib.hid (fun W hW => za3 a n cap L (by omega) W hW (fun v h => ⟨Nat.le_trans (hv v h).1 (by unfold maxLen; decide), by have := (hv v h).2; unfold InI at this; unfold zau; omega⟩))
 have HL := Lib.hid hL
 rw [hb] at HVA
 clear hL hv
 go_enter Tryz.func38, Tryz.ntmps38
 go_wp2_with fail
 generalize w.alloc (.cells #[.int .u8 0, .int .i64 0, .string ⟨#[]⟩] 26) = wa at *
 refine (HCN.out _).mono ?_
 rintro e w1 ⟨rfl, hB1⟩
 have HX1 := Lib.hid (HX.out.later hB1)
 have HB1 := Lib.hid (zab HB.out hB1)
 clear hB1 HX HB
 go_wp2_with fail
 refine (HVA.out _ (IsOf.later HL.out HB1.out)).mono ?_
 rintro e w2 ⟨rfl, hB2⟩
 have HX2 := Lib.hid (HX1.out.later hB2)
 have HB2 := Lib.hid (zab HB1.out hB2)
 clear hB2 HX1 HB1
 have hX3 := HX2.out
 have HB3 := HB2
 obtain ⟨x0, x1, x2, z0, z1, z2⟩ := hX3.cells
 have hXl := hX3.lt
 obtain ⟨hq, hg⟩ := zae hX3 0 0 ⟨#[]⟩
 have hb5 := HB3.out.grown hg HB3.out.size (fun q hq => by injection hq with hq; omega)
 clear hg
 go_wp2_with fail
 generalize ((w2.setCell ⟨w.heap.size, 0, none⟩ (.int .u8 0)).setCell ⟨w.heap.size, 1, none⟩ (.int .i64 0)).setCell ⟨w.heap.size, 2, none⟩ (.string ⟨#[]⟩) = w5 at *
 obtain ⟨v0, v1, v2, _, _, _⟩ := hq.cells
 refine bodyPost_ret (v := .tuple #[.agg #[.int .u8 0, .int .i64 0, .string ⟨#[]⟩], .int .i64 2]) (by simp [results, Tryz.results38, go_sem, v0, v1, v2]) rfl ⟨rfl, hb5⟩
set_option maxRecDepth 100000 in
set_option maxHeartbeats 6400000 in
theorem zyc (a : Option Addr) (n cap : Nat) (L : List V3) (w : World) (hL : IsV w a n L) (hl : 1 ≤ n) (hn : n ≤ 1) (hv : ∀ v ∈ L, v.2.2.size ≤ 2000 ∧ InI v.2.1) (hb : okL L = true) (hT : Tb w) :
 Calls Tryz.prog 38 #[.int .u8 31, .slice a n cap] w fun e w' => e = .returned (.tuple #[vOf (resV 31 (zag [115] L [] [])), .int .i64 0]) ∧ Below w.heap.size w w' := by
 have HX : Hid (B3 (w.alloc (.cells #[.int .u8 0, .int .i64 0, .string ⟨#[]⟩] 26)) w.heap.size 0 0 ⟨#[]⟩) := B3.start w 0 0 ⟨#[]⟩
 have HB := Lib.hid (zaa w (.cells #[.int .u8 0, .int .i64 0, .string ⟨#[]⟩] 26))
 have HCN := Lib.hid (fun W => zaz 31 n (by omega) W yaj)
 rw [decide_eq_true (show (arV 31).1 ≤ n ∧ n ≤ (arV 31).2 from ⟨hl, hn⟩)] at HCN
 have HVA := Lib.hid (fun W hW => za3 a n cap L (by omega) W hW (fun v h => ⟨Nat.le_trans (hv v h).1 (by unfold maxLen; decide), by have := (hv v h).2; unfold InI at this; unfold zau; omega⟩))
 have HL := Lib.hid hL
 rw [hb] at HVA
 have HT := Lib.hid hT
 have HCO := Lib.hid (fun W hW hT => zaw 31 ⟨#[115]⟩ a n cap L W hW hn (by decide) (by decide) yg9 hv hT)
 have HF := Lib.hid (fun T W' => zah [115] L [] [] T W' (fun v h => (hv v h).2) (by decide))
 have HNL := Lib.hid hL.1
 rw [show (⟨#[115]⟩ : ByteArray).data.toList = [115] from rfl] at HCO
 obtain ⟨R, hR⟩ : ∃ R, zag [115] L [] [] = R := ⟨_, rfl⟩
 rw [hR] at HCO
 have HR := Lib.hid hR
 clear hL hv hT hR
 go_enter Tryz.func38, Tryz.ntmps38
 go_wp2_with fail
 generalize w.alloc (.cells #[.int .u8 0, .int .i64 0, .string ⟨#[]⟩] 26) = wa at *
 refine (HCN.out _).mono ?_
 rintro e w1 ⟨rfl, hB1⟩
 have HX1 := Lib.hid (HX.out.later hB1)
 have HB1 := Lib.hid (zab HB.out hB1)
 clear hB1 HX HB
 go_wp2_with fail
 refine (HVA.out _ (IsOf.later HL.out HB1.out)).mono ?_
 rintro e w2 ⟨rfl, hB2⟩
 have HX2 := Lib.hid (HX1.out.later hB2)
 have HB2 := Lib.hid (zab HB1.out hB2)
 clear hB2 HX1 HB1
 go_wp2_with fail
 refine (HCO.out _ (IsOf.later HL.out HB2.out) (HT.out.later HB2.out)).mono ?_
 rintro e w3 ⟨hRV, hB3⟩
 have HX3 := Lib.hid (HX2.out.later hB3)
 have HB3 := Lib.hid (zab HB2.out hB3)
 clear hB3 HX2 HB2
 clear HCN HVA HCO HL
 cases R with
 | inr x =>
  obtain ⟨xk, xn, xs⟩ := x
  obtain rfl : e = .returned (.tuple #[.slice none 0 0, .slice none 0 0, .agg #[.int .u8 (xk : Int), .int .i64 xn, .string xs], .bool false]) := hRV
  have HE : Hid (resV 31 (zag [115] L [] []) = (xk, xn, xs)) := by unfold Hid; rw [HR.out]; rfl
  have HY := Lib.hid (B3.start w3 xk xn xs)
  have l4 := zaa w3 (.cells #[.int .u8 (xk : Int), .int .i64 xn, .string xs] 26)
  have HX4 := Lib.hid (HX3.out.later l4)
  have HB4 := Lib.hid (zab HB3.out l4)
  clear l4 HX3 HB3
  go_upto_region 8 with fail
  generalize w3.alloc (.cells #[.int .u8 (xk : Int), .int .i64 xn, .string xs] 26) = w4 at *
  obtain ⟨y0, y1, y2, _, _, _⟩ := HY.out.cells
  have hyl := HY.out.lt
  have hX3 := HX4.out
  have HB3 := HB4
  obtain ⟨x0, x1, x2, z0, z1, z2⟩ := hX3.cells
  have hXl := hX3.lt
  obtain ⟨hq, hg⟩ := zae hX3 xk xn xs
  have hb5 := HB3.out.grown hg HB3.out.size (fun q hq => by injection hq with hq; omega)
  clear hg
  go_wp2_with fail
  generalize ((w4.setCell ⟨w.heap.size, 0, none⟩ (.int .u8 (xk : Int))).setCell ⟨w.heap.size, 1, none⟩ (.int .i64 xn)).setCell ⟨w.heap.size, 2, none⟩ (.string xs) = w5 at *
  obtain ⟨v0, v1, v2, _, _, _⟩ := hq.cells
  refine bodyPost_ret (v := .tuple #[.agg #[.int .u8 (xk : Int), .int .i64 xn, .string xs], .int .i64 0]) (by simp [results, Tryz.results38, go_sem, v0, v1, v2]) rfl ⟨by rw [HE.out]; rfl, hb5⟩
 | inl p =>
  obtain ⟨T, W'⟩ := p
  obtain ⟨u, v, hev, hOT, hON⟩ := hRV
  obtain rfl : e = .returned (.tuple #[u, v, .agg #[.int .u8 0, .int .i64 0, .string ⟨#[]⟩], .bool true]) := hev
  dsimp only at hOT hON
  obtain ⟨W0, rfl⟩ := za1 _ _ _ _ _ _ HR.out
  rw [List.dropLast_concat] at hON
  obtain ⟨ta, tc, rfl, hTT⟩ := hOT.isOf zaq
  obtain ⟨wa0, wc, rfl, hW⟩ := hON.isOf zap
  obtain ⟨f1, f2, f3, f4⟩ := HF.out T (W0 ++ [1]) HR.out
  have f3 : ∀ t ∈ T, t.size ≤ 256 := fun t ht => (f3 t ht).resolve_left (by simp)
  have f4 : ∀ x ∈ W0 ++ [1], x ≤ 9223372036854775807 := fun x hx => (f4 x hx).resolve_left (by simp)
  have hnl := HNL.out
  have h1 : 1 ≤ T.length := by
   rw [f1, hnl]
   obtain rfl := (by omega : n = 1)
   all_goals decide
  have hw9 : W0.length ≤ 16 := by
   have hc := Nat.le_trans (List.count_le_length (a := (110 : UInt8)) (l := List.take L.length [115])) (show _ ≤ 16 by rw [List.length_take]; exact Nat.le_trans (Nat.min_le_right _ _) (by decide))
   rw [List.length_append] at f2
   simp at f2
   omega
  have HE : Hid (resV 31 (zag [115] L [] []) = zco 31 T (W0 ++ [1])) := by unfold Hid; rw [HR.out]; rfl
  have l4 := zaa w3 (.cells #[.int .u8 0, .int .i64 0, .string ⟨#[]⟩] 26)
  have HX4 := Lib.hid (HX3.out.later l4)
  have HB4 := Lib.hid (zab HB3.out l4)
  have HT4 := Lib.hid (hTT.later l4)
  have HW4 := Lib.hid (hW.later l4)
  have HV := Lib.hid (fun W (hX : Below w.heap.size w W) (hTT : IsT W ta T.length T) (hW : IsW W wa0 W0.length W0) => yhm ta wa0 T.length tc W0.length wc T W0 W hTT hW (g0 T) (zbc h1) (Nat.le_trans (f3 _ (zbi (zbc h1))) (by decide)))
  clear l4 HX3 HB3 hOT hON hTT hW f1 f2 HF
  go_upto_region 8 with fail
  generalize w3.alloc (.cells #[.int .u8 0, .int .i64 0, .string ⟨#[]⟩] 26) = w4 at *
  obtain ⟨vv, hvv⟩ : ∃ vv, zco 31 T (W0 ++ [1]) = vv := ⟨_, rfl⟩
  have HV2 : Hid (∀ W, Below w.heap.size w W → IsT W ta T.length T → IsW W wa0 W0.length W0 → Calls Tryz.prog 83 #[.int .u8 31, .slice ta T.length tc, .slice wa0 W0.length wc] W fun e w' => e = .returned (vOf vv) ∧ Below W.heap.size W w') := by rw [← hvv]; exact HV.out
  rw [hvv] at HE
  obtain ⟨vk, vn, vs⟩ := vv
  unfold vOf at HV2
  dsimp only at HV2
  clear HV hvv f3 f4
  go_wp2_with fail
  refine (HV2.out _ HB4.out HT4.out  HW4.out).mono ?_
  rintro e w6 ⟨rfl, hB6⟩
  have hX3 := HX4.out.later hB6
  have HB3 := Lib.hid (zab HB4.out hB6)
  clear hB6
  obtain ⟨x0, x1, x2, z0, z1, z2⟩ := hX3.cells
  have hXl := hX3.lt
  obtain ⟨hq, hg⟩ := zae hX3 vk vn vs
  have hb5 := HB3.out.grown hg HB3.out.size (fun q hq => by injection hq with hq; omega)
  clear hg
  go_wp2_with fail
  generalize ((w6.setCell ⟨w.heap.size, 0, none⟩ (.int .u8 (vk : Int))).setCell ⟨w.heap.size, 1, none⟩ (.int .i64 vn)).setCell ⟨w.heap.size, 2, none⟩ (.string vs) = w5 at *
  obtain ⟨v0, v1, v2, _, _, _⟩ := hq.cells
  refine bodyPost_ret (v := .tuple #[.agg #[.int .u8 (vk : Int), .int .i64 vn, .string vs], .int .i64 0]) (by simp [results, Tryz.results38, go_sem, v0, v1, v2]) rfl ⟨by rw [HE.out]; rfl, hb5⟩
set_option maxRecDepth 100000 in
set_option maxHeartbeats 6400000 in
theorem zyb (a : Option Addr) (n cap : Nat) (L : List V3) (w : World) (hL : IsV w a n L) (hl : 1 ≤ n) (hn : n ≤ 2) (hv : ∀ v ∈ L, v.2.2.size ≤ 2000 ∧ InI v.2.1) (hb : okL L = true) (hT : Tb w) :
 Calls Tryz.prog 38 #[.int .u8 32, .slice a n cap] w fun e w' => e = .returned (.tuple #[vOf (resV 32 (zag [115, 110] L [] [])), .int .i64 0]) ∧ Below w.heap.size w w' := by
 have HX : Hid (B3 (w.alloc (.cells #[.int .u8 0, .int .i64 0, .string ⟨#[]⟩] 26)) w.heap.size 0 0 ⟨#[]⟩) := B3.start w 0 0 ⟨#[]⟩
 have HB := Lib.hid (zaa w (.cells #[.int .u8 0, .int .i64 0, .string ⟨#[]⟩] 26))
 have HCN := Lib.hid (fun W => zaz 32 n (by omega) W yai)
 rw [decide_eq_true (show (arV 32).1 ≤ n ∧ n ≤ (arV 32).2 from ⟨hl, hn⟩)] at HCN
 have HVA := Lib.hid (fun W hW => za3 a n cap L (by omega) W hW (fun v h => ⟨Nat.le_trans (hv v h).1 (by unfold maxLen; decide), by have := (hv v h).2; unfold InI at this; unfold zau; omega⟩))
 have HL := Lib.hid hL
 rw [hb] at HVA
 have HT := Lib.hid hT
 have HCO := Lib.hid (fun W hW hT => zaw 32 ⟨#[115, 110]⟩ a n cap L W hW hn (by decide) (by decide) yg8 hv hT)
 have HF := Lib.hid (fun T W' => zah [115, 110] L [] [] T W' (fun v h => (hv v h).2) (by decide))
 have HNL := Lib.hid hL.1
 rw [show (⟨#[115, 110]⟩ : ByteArray).data.toList = [115, 110] from rfl] at HCO
 obtain ⟨R, hR⟩ : ∃ R, zag [115, 110] L [] [] = R := ⟨_, rfl⟩
 rw [hR] at HCO
 have HR := Lib.hid hR
 clear hL hv hT hR
 go_enter Tryz.func38, Tryz.ntmps38
 go_wp2_with fail
 generalize w.alloc (.cells #[.int .u8 0, .int .i64 0, .string ⟨#[]⟩] 26) = wa at *
 refine (HCN.out _).mono ?_
 rintro e w1 ⟨rfl, hB1⟩
 have HX1 := Lib.hid (HX.out.later hB1)
 have HB1 := Lib.hid (zab HB.out hB1)
 clear hB1 HX HB
 go_wp2_with fail
 refine (HVA.out _ (IsOf.later HL.out HB1.out)).mono ?_
 rintro e w2 ⟨rfl, hB2⟩
 have HX2 := Lib.hid (HX1.out.later hB2)
 have HB2 := Lib.hid (zab HB1.out hB2)
 clear hB2 HX1 HB1
 go_wp2_with fail
 refine (HCO.out _ (IsOf.later HL.out HB2.out) (HT.out.later HB2.out)).mono ?_
 rintro e w3 ⟨hRV, hB3⟩
 have HX3 := Lib.hid (HX2.out.later hB3)
 have HB3 := Lib.hid (zab HB2.out hB3)
 clear hB3 HX2 HB2
 clear HCN HVA HCO HL
 cases R with
 | inr x =>
  obtain ⟨xk, xn, xs⟩ := x
  obtain rfl : e = .returned (.tuple #[.slice none 0 0, .slice none 0 0, .agg #[.int .u8 (xk : Int), .int .i64 xn, .string xs], .bool false]) := hRV
  have HE : Hid (resV 32 (zag [115, 110] L [] []) = (xk, xn, xs)) := by unfold Hid; rw [HR.out]; rfl
  have HY := Lib.hid (B3.start w3 xk xn xs)
  have l4 := zaa w3 (.cells #[.int .u8 (xk : Int), .int .i64 xn, .string xs] 26)
  have HX4 := Lib.hid (HX3.out.later l4)
  have HB4 := Lib.hid (zab HB3.out l4)
  clear l4 HX3 HB3
  go_upto_region 8 with fail
  generalize w3.alloc (.cells #[.int .u8 (xk : Int), .int .i64 xn, .string xs] 26) = w4 at *
  obtain ⟨y0, y1, y2, _, _, _⟩ := HY.out.cells
  have hyl := HY.out.lt
  have hX3 := HX4.out
  have HB3 := HB4
  obtain ⟨x0, x1, x2, z0, z1, z2⟩ := hX3.cells
  have hXl := hX3.lt
  obtain ⟨hq, hg⟩ := zae hX3 xk xn xs
  have hb5 := HB3.out.grown hg HB3.out.size (fun q hq => by injection hq with hq; omega)
  clear hg
  go_wp2_with fail
  generalize ((w4.setCell ⟨w.heap.size, 0, none⟩ (.int .u8 (xk : Int))).setCell ⟨w.heap.size, 1, none⟩ (.int .i64 xn)).setCell ⟨w.heap.size, 2, none⟩ (.string xs) = w5 at *
  obtain ⟨v0, v1, v2, _, _, _⟩ := hq.cells
  refine bodyPost_ret (v := .tuple #[.agg #[.int .u8 (xk : Int), .int .i64 xn, .string xs], .int .i64 0]) (by simp [results, Tryz.results38, go_sem, v0, v1, v2]) rfl ⟨by rw [HE.out]; rfl, hb5⟩
 | inl p =>
  obtain ⟨T, W'⟩ := p
  obtain ⟨u, v, hev, hOT, hON⟩ := hRV
  obtain rfl : e = .returned (.tuple #[u, v, .agg #[.int .u8 0, .int .i64 0, .string ⟨#[]⟩], .bool true]) := hev
  dsimp only at hOT hON
  obtain ⟨W0, rfl⟩ := za1 _ _ _ _ _ _ HR.out
  rw [List.dropLast_concat] at hON
  obtain ⟨ta, tc, rfl, hTT⟩ := hOT.isOf zaq
  obtain ⟨wa0, wc, rfl, hW⟩ := hON.isOf zap
  obtain ⟨f1, f2, f3, f4⟩ := HF.out T (W0 ++ [1]) HR.out
  have f3 : ∀ t ∈ T, t.size ≤ 256 := fun t ht => (f3 t ht).resolve_left (by simp)
  have f4 : ∀ x ∈ W0 ++ [1], x ≤ 9223372036854775807 := fun x hx => (f4 x hx).resolve_left (by simp)
  have hnl := HNL.out
  have h1 : 1 ≤ T.length := by
   rw [f1, hnl]
   obtain rfl | rfl := (by omega : n = 1 ∨ n = 2)
   all_goals decide
  have hw9 : W0.length ≤ 16 := by
   have hc := Nat.le_trans (List.count_le_length (a := (110 : UInt8)) (l := List.take L.length [115, 110])) (show _ ≤ 16 by rw [List.length_take]; exact Nat.le_trans (Nat.min_le_right _ _) (by decide))
   rw [List.length_append] at f2
   simp at f2
   omega
  have HE : Hid (resV 32 (zag [115, 110] L [] []) = zco 32 T (W0 ++ [1])) := by unfold Hid; rw [HR.out]; rfl
  have l4 := zaa w3 (.cells #[.int .u8 0, .int .i64 0, .string ⟨#[]⟩] 26)
  have HX4 := Lib.hid (HX3.out.later l4)
  have HB4 := Lib.hid (zab HB3.out l4)
  have HT4 := Lib.hid (hTT.later l4)
  have HW4 := Lib.hid (hW.later l4)
  have HV := Lib.hid (fun W (hX : Below w.heap.size w W) (hW : IsW W wa0 W0.length W0) => zuv (g0 T) wa0 W0.length wc W0 W hW (by omega) (n0 (W0 ++ [1])) (zmh W0) (Nat.le_trans (f3 _ (zbi (zbc h1))) (by decide)))
  clear l4 HX3 HB3 hOT hON hTT hW f1 f2 HF
  obtain ⟨nt0, bt0, ot0, ea0, lt0, ct0⟩ := zbb HT4.out (zbc h1)
  rw [Nat.add_zero] at ct0
  have EA0 := Lib.hid ea0
  clear ea0
  go_upto_region 8 with fail
  generalize w3.alloc (.cells #[.int .u8 0, .int .i64 0, .string ⟨#[]⟩] 26) = w4 at *
  have ea0 := EA0.out
  clear EA0
  subst ea0
  obtain ⟨vv, hvv⟩ : ∃ vv, zco 32 T (W0 ++ [1]) = vv := ⟨_, rfl⟩
  have HV2 : Hid (∀ W, Below w.heap.size w W → IsW W wa0 W0.length W0 → Calls Tryz.prog 82 #[.int .u8 32, .string (g0 T), .slice wa0 W0.length wc] W fun e w' => e = .returned (vOf vv) ∧ Below W.heap.size W w') := by rw [← hvv]; exact HV.out
  rw [hvv] at HE
  obtain ⟨vk, vn, vs⟩ := vv
  unfold vOf at HV2
  dsimp only at HV2
  clear HV hvv f3 f4
  go_wp2_with fail
  refine (HV2.out _ HB4.out HW4.out).mono ?_
  rintro e w6 ⟨rfl, hB6⟩
  have hX3 := HX4.out.later hB6
  have HB3 := Lib.hid (zab HB4.out hB6)
  clear hB6
  obtain ⟨x0, x1, x2, z0, z1, z2⟩ := hX3.cells
  have hXl := hX3.lt
  obtain ⟨hq, hg⟩ := zae hX3 vk vn vs
  have hb5 := HB3.out.grown hg HB3.out.size (fun q hq => by injection hq with hq; omega)
  clear hg
  go_wp2_with fail
  generalize ((w6.setCell ⟨w.heap.size, 0, none⟩ (.int .u8 (vk : Int))).setCell ⟨w.heap.size, 1, none⟩ (.int .i64 vn)).setCell ⟨w.heap.size, 2, none⟩ (.string vs) = w5 at *
  obtain ⟨v0, v1, v2, _, _, _⟩ := hq.cells
  refine bodyPost_ret (v := .tuple #[.agg #[.int .u8 (vk : Int), .int .i64 vn, .string vs], .int .i64 0]) (by simp [results, Tryz.results38, go_sem, v0, v1, v2]) rfl ⟨by rw [HE.out]; rfl, hb5⟩
set_option maxRecDepth 100000 in
set_option maxHeartbeats 6400000 in
theorem zya (a : Option Addr) (n cap : Nat) (L : List V3) (w : World) (hL : IsV w a n L) (hl : 1 ≤ n) (hn : n ≤ 2) (hv : ∀ v ∈ L, v.2.2.size ≤ 2000 ∧ InI v.2.1) (hb : okL L = true) (hT : Tb w) :
 Calls Tryz.prog 38 #[.int .u8 33, .slice a n cap] w fun e w' => e = .returned (.tuple #[vOf (resV 33 (zag [115, 110] L [] [])), .int .i64 0]) ∧ Below w.heap.size w w' := by
 have HX : Hid (B3 (w.alloc (.cells #[.int .u8 0, .int .i64 0, .string ⟨#[]⟩] 26)) w.heap.size 0 0 ⟨#[]⟩) := B3.start w 0 0 ⟨#[]⟩
 have HB := Lib.hid (zaa w (.cells #[.int .u8 0, .int .i64 0, .string ⟨#[]⟩] 26))
 have HCN := Lib.hid (fun W => zaz 33 n (by omega) W yah)
 rw [decide_eq_true (show (arV 33).1 ≤ n ∧ n ≤ (arV 33).2 from ⟨hl, hn⟩)] at HCN
 have HVA := Lib.hid (fun W hW => za3 a n cap L (by omega) W hW (fun v h => ⟨Nat.le_trans (hv v h).1 (by unfold maxLen; decide), by have := (hv v h).2; unfold InI at this; unfold zau; omega⟩))
 have HL := Lib.hid hL
 rw [hb] at HVA
 have HT := Lib.hid hT
 have HCO := Lib.hid (fun W hW hT => zaw 33 ⟨#[115, 110]⟩ a n cap L W hW hn (by decide) (by decide) yg7 hv hT)
 have HF := Lib.hid (fun T W' => zah [115, 110] L [] [] T W' (fun v h => (hv v h).2) (by decide))
 have HNL := Lib.hid hL.1
 rw [show (⟨#[115, 110]⟩ : ByteArray).data.toList = [115, 110] from rfl] at HCO
 obtain ⟨R, hR⟩ : ∃ R, zag [115, 110] L [] [] = R := ⟨_, rfl⟩
 rw [hR] at HCO
 have HR := Lib.hid hR
 clear hL hv hT hR
 go_enter Tryz.func38, Tryz.ntmps38
 go_wp2_with fail
 generalize w.alloc (.cells #[.int .u8 0, .int .i64 0, .string ⟨#[]⟩] 26) = wa at *
 refine (HCN.out _).mono ?_
 rintro e w1 ⟨rfl, hB1⟩
 have HX1 := Lib.hid (HX.out.later hB1)
 have HB1 := Lib.hid (zab HB.out hB1)
 clear hB1 HX HB
 go_wp2_with fail
 refine (HVA.out _ (IsOf.later HL.out HB1.out)).mono ?_
 rintro e w2 ⟨rfl, hB2⟩
 have HX2 := Lib.hid (HX1.out.later hB2)
 have HB2 := Lib.hid (zab HB1.out hB2)
 clear hB2 HX1 HB1
 go_wp2_with fail
 refine (HCO.out _ (IsOf.later HL.out HB2.out) (HT.out.later HB2.out)).mono ?_
 rintro e w3 ⟨hRV, hB3⟩
 have HX3 := Lib.hid (HX2.out.later hB3)
 have HB3 := Lib.hid (zab HB2.out hB3)
 clear hB3 HX2 HB2
 clear HCN HVA HCO HL
 cases R with
 | inr x =>
  obtain ⟨xk, xn, xs⟩ := x
  obtain rfl : e = .returned (.tuple #[.slice none 0 0, .slice none 0 0, .agg #[.int .u8 (xk : Int), .int .i64 xn, .string xs], .bool false]) := hRV
  have HE : Hid (resV 33 (zag [115, 110] L [] []) = (xk, xn, xs)) := by unfold Hid; rw [HR.out]; rfl
  have HY := Lib.hid (B3.start w3 xk xn xs)
  have l4 := zaa w3 (.cells #[.int .u8 (xk : Int), .int .i64 xn, .string xs] 26)
  have HX4 := Lib.hid (HX3.out.later l4)
  have HB4 := Lib.hid (zab HB3.out l4)
  clear l4 HX3 HB3
  go_upto_region 8 with fail
  generalize w3.alloc (.cells #[.int .u8 (xk : Int), .int .i64 xn, .string xs] 26) = w4 at *
  obtain ⟨y0, y1, y2, _, _, _⟩ := HY.out.cells
  have hyl := HY.out.lt
  have hX3 := HX4.out
  have HB3 := HB4
  obtain ⟨x0, x1, x2, z0, z1, z2⟩ := hX3.cells
  have hXl := hX3.lt
  obtain ⟨hq, hg⟩ := zae hX3 xk xn xs
  have hb5 := HB3.out.grown hg HB3.out.size (fun q hq => by injection hq with hq; omega)
  clear hg
  go_wp2_with fail
  generalize ((w4.setCell ⟨w.heap.size, 0, none⟩ (.int .u8 (xk : Int))).setCell ⟨w.heap.size, 1, none⟩ (.int .i64 xn)).setCell ⟨w.heap.size, 2, none⟩ (.string xs) = w5 at *
  obtain ⟨v0, v1, v2, _, _, _⟩ := hq.cells
  refine bodyPost_ret (v := .tuple #[.agg #[.int .u8 (xk : Int), .int .i64 xn, .string xs], .int .i64 0]) (by simp [results, Tryz.results38, go_sem, v0, v1, v2]) rfl ⟨by rw [HE.out]; rfl, hb5⟩
 | inl p =>
  obtain ⟨T, W'⟩ := p
  obtain ⟨u, v, hev, hOT, hON⟩ := hRV
  obtain rfl : e = .returned (.tuple #[u, v, .agg #[.int .u8 0, .int .i64 0, .string ⟨#[]⟩], .bool true]) := hev
  dsimp only at hOT hON
  obtain ⟨W0, rfl⟩ := za1 _ _ _ _ _ _ HR.out
  rw [List.dropLast_concat] at hON
  obtain ⟨ta, tc, rfl, hTT⟩ := hOT.isOf zaq
  obtain ⟨wa0, wc, rfl, hW⟩ := hON.isOf zap
  obtain ⟨f1, f2, f3, f4⟩ := HF.out T (W0 ++ [1]) HR.out
  have f3 : ∀ t ∈ T, t.size ≤ 256 := fun t ht => (f3 t ht).resolve_left (by simp)
  have f4 : ∀ x ∈ W0 ++ [1], x ≤ 9223372036854775807 := fun x hx => (f4 x hx).resolve_left (by simp)
  have hnl := HNL.out
  have h1 : 1 ≤ T.length := by
   rw [f1, hnl]
   obtain rfl | rfl := (by omega : n = 1 ∨ n = 2)
   all_goals decide
  have hw9 : W0.length ≤ 16 := by
   have hc := Nat.le_trans (List.count_le_length (a := (110 : UInt8)) (l := List.take L.length [115, 110])) (show _ ≤ 16 by rw [List.length_take]; exact Nat.le_trans (Nat.min_le_right _ _) (by decide))
   rw [List.length_append] at f2
   simp at f2
   omega
  have HE : Hid (resV 33 (zag [115, 110] L [] []) = zco 33 T (W0 ++ [1])) := by unfold Hid; rw [HR.out]; rfl
  have l4 := zaa w3 (.cells #[.int .u8 0, .int .i64 0, .string ⟨#[]⟩] 26)
  have HX4 := Lib.hid (HX3.out.later l4)
  have HB4 := Lib.hid (zab HB3.out l4)
  have HT4 := Lib.hid (hTT.later l4)
  have HW4 := Lib.hid (hW.later l4)
  have HV := Lib.hid (fun W (hX : Below w.heap.size w W) (hW : IsW W wa0 W0.length W0) => zuu (g0 T) wa0 W0.length wc W0 W hW (by omega) (n0 (W0 ++ [1])) (zmh W0) (Nat.le_trans (f3 _ (zbi (zbc h1))) (by decide)))
  clear l4 HX3 HB3 hOT hON hTT hW f1 f2 HF
  obtain ⟨nt0, bt0, ot0, ea0, lt0, ct0⟩ := zbb HT4.out (zbc h1)
  rw [Nat.add_zero] at ct0
  have EA0 := Lib.hid ea0
  clear ea0
  go_upto_region 8 with fail
  generalize w3.alloc (.cells #[.int .u8 0, .int .i64 0, .string ⟨#[]⟩] 26) = w4 at *
  have ea0 := EA0.out
  clear EA0
  subst ea0
  obtain ⟨vv, hvv⟩ : ∃ vv, zco 33 T (W0 ++ [1]) = vv := ⟨_, rfl⟩
  have HV2 : Hid (∀ W, Below w.heap.size w W → IsW W wa0 W0.length W0 → Calls Tryz.prog 82 #[.int .u8 33, .string (g0 T), .slice wa0 W0.length wc] W fun e w' => e = .returned (vOf vv) ∧ Below W.heap.size W w') := by rw [← hvv]; exact HV.out
  rw [hvv] at HE
  obtain ⟨vk, vn, vs⟩ := vv
  unfold vOf at HV2
  dsimp only at HV2
  clear HV hvv f3 f4
  go_wp2_with fail
  refine (HV2.out _ HB4.out HW4.out).mono ?_
  rintro e w6 ⟨rfl, hB6⟩
  have hX3 := HX4.out.later hB6
  have HB3 := Lib.hid (zab HB4.out hB6)
  clear hB6
  obtain ⟨x0, x1, x2, z0, z1, z2⟩ := hX3.cells
  have hXl := hX3.lt
  obtain ⟨hq, hg⟩ := zae hX3 vk vn vs
  have hb5 := HB3.out.grown hg HB3.out.size (fun q hq => by injection hq with hq; omega)
  clear hg
  go_wp2_with fail
  generalize ((w6.setCell ⟨w.heap.size, 0, none⟩ (.int .u8 (vk : Int))).setCell ⟨w.heap.size, 1, none⟩ (.int .i64 vn)).setCell ⟨w.heap.size, 2, none⟩ (.string vs) = w5 at *
  obtain ⟨v0, v1, v2, _, _, _⟩ := hq.cells
  refine bodyPost_ret (v := .tuple #[.agg #[.int .u8 (vk : Int), .int .i64 vn, .string vs], .int .i64 0]) (by simp [results, Tryz.results38, go_sem, v0, v1, v2]) rfl ⟨by rw [HE.out]; rfl, hb5⟩
set_option maxRecDepth 100000 in
set_option maxHeartbeats 6400000 in
theorem zx9 (a : Option Addr) (n cap : Nat) (L : List V3) (w : World) (hL : IsV w a n L) (hl : 3 ≤ n) (hn : n ≤ 3) (hv : ∀ v ∈ L, v.2.2.size ≤ 2000 ∧ InI v.2.1) (hb : okL L = true) (hT : Tb w) :
 Calls Tryz.prog 38 #[.int .u8 34, .slice a n cap] w fun e w' => e = .returned (.tuple #[vOf (resV 34 (zag [115, 110, 110] L [] [])), .int .i64 0]) ∧ Below w.heap.size w w' := by
 have HX : Hid (B3 (w.alloc (.cells #[.int .u8 0, .int .i64 0, .string ⟨#[]⟩] 26)) w.heap.size 0 0 ⟨#[]⟩) := B3.start w 0 0 ⟨#[]⟩
 have HB := Lib.hid (zaa w (.cells #[.int .u8 0, .int .i64 0, .string ⟨#[]⟩] 26))
 have HCN := Lib.hid (fun W => zaz 34 n (by omega) W yag)
 rw [decide_eq_true (show (arV 34).1 ≤ n ∧ n ≤ (arV 34).2 from ⟨hl, hn⟩)] at HCN
 have HVA := Lib.hid (fun W hW => za3 a n cap L (by omega) W hW (fun v h => ⟨Nat.le_trans (hv v h).1 (by unfold maxLen; decide), by have := (hv v h).2; unfold InI at this; unfold zau; omega⟩))
 have HL := Lib.hid hL
 rw [hb] at HVA
 have HT := Lib.hid hT
 have HCO := Lib.hid (fun W hW hT => zaw 34 ⟨#[115, 110, 110]⟩ a n cap L W hW hn (by decide) (by decide) yg6 hv hT)
 have HF := Lib.hid (fun T W' => zah [115, 110, 110] L [] [] T W' (fun v h => (hv v h).2) (by decide))
 have HNL := Lib.hid hL.1
 rw [show (⟨#[115, 110, 110]⟩ : ByteArray).data.toList = [115, 110, 110] from rfl] at HCO
 obtain ⟨R, hR⟩ : ∃ R, zag [115, 110, 110] L [] [] = R := ⟨_, rfl⟩
 rw [hR] at HCO
 have HR := Lib.hid hR
 clear hL hv hT hR
 go_enter Tryz.func38, Tryz.ntmps38
 go_wp2_with fail
 generalize w.alloc (.cells #[.int .u8 0, .int .i64 0, .string ⟨#[]⟩] 26) = wa at *
 refine (HCN.out _).mono ?_
 rintro e w1 ⟨rfl, hB1⟩
 have HX1 := Lib.hid (HX.out.later hB1)
 have HB1 := Lib.hid (zab HB.out hB1)
 clear hB1 HX HB
 go_wp2_with fail
 refine (HVA.out _ (IsOf.later HL.out HB1.out)).mono ?_
 rintro e w2 ⟨rfl, hB2⟩
 have HX2 := Lib.hid (HX1.out.later hB2)
 have HB2 := Lib.hid (zab HB1.out hB2)
 clear hB2 HX1 HB1
 go_wp2_with fail
 refine (HCO.out _ (IsOf.later HL.out HB2.out) (HT.out.later HB2.out)).mono ?_
 rintro e w3 ⟨hRV, hB3⟩
 have HX3 := Lib.hid (HX2.out.later hB3)
 have HB3 := Lib.hid (zab HB2.out hB3)
 clear hB3 HX2 HB2
 clear HCN HVA HCO HL
 cases R with
 | inr x =>
  obtain ⟨xk, xn, xs⟩ := x
  obtain rfl : e = .returned (.tuple #[.slice none 0 0, .slice none 0 0, .agg #[.int .u8 (xk : Int), .int .i64 xn, .string xs], .bool false]) := hRV
  have HE : Hid (resV 34 (zag [115, 110, 110] L [] []) = (xk, xn, xs)) := by unfold Hid; rw [HR.out]; rfl
  have HY := Lib.hid (B3.start w3 xk xn xs)
  have l4 := zaa w3 (.cells #[.int .u8 (xk : Int), .int .i64 xn, .string xs] 26)
  have HX4 := Lib.hid (HX3.out.later l4)
  have HB4 := Lib.hid (zab HB3.out l4)
  clear l4 HX3 HB3
  go_upto_region 8 with fail
  generalize w3.alloc (.cells #[.int .u8 (xk : Int), .int .i64 xn, .string xs] 26) = w4 at *
  obtain ⟨y0, y1, y2, _, _, _⟩ := HY.out.cells
  have hyl := HY.out.lt
  have hX3 := HX4.out
  have HB3 := HB4
  obtain ⟨x0, x1, x2, z0, z1, z2⟩ := hX3.cells
  have hXl := hX3.lt
  obtain ⟨hq, hg⟩ := zae hX3 xk xn xs
  have hb5 := HB3.out.grown hg HB3.out.size (fun q hq => by injection hq with hq; omega)
  clear hg
  go_wp2_with fail
  generalize ((w4.setCell ⟨w.heap.size, 0, none⟩ (.int .u8 (xk : Int))).setCell ⟨w.heap.size, 1, none⟩ (.int .i64 xn)).setCell ⟨w.heap.size, 2, none⟩ (.string xs) = w5 at *
  obtain ⟨v0, v1, v2, _, _, _⟩ := hq.cells
  refine bodyPost_ret (v := .tuple #[.agg #[.int .u8 (xk : Int), .int .i64 xn, .string xs], .int .i64 0]) (by simp [results, Tryz.results38, go_sem, v0, v1, v2]) rfl ⟨by rw [HE.out]; rfl, hb5⟩
 | inl p =>
  obtain ⟨T, W'⟩ := p
  obtain ⟨u, v, hev, hOT, hON⟩ := hRV
  obtain rfl : e = .returned (.tuple #[u, v, .agg #[.int .u8 0, .int .i64 0, .string ⟨#[]⟩], .bool true]) := hev
  dsimp only at hOT hON
  obtain ⟨W0, rfl⟩ := za1 _ _ _ _ _ _ HR.out
  rw [List.dropLast_concat] at hON
  obtain ⟨ta, tc, rfl, hTT⟩ := hOT.isOf zaq
  obtain ⟨wa0, wc, rfl, hW⟩ := hON.isOf zap
  obtain ⟨f1, f2, f3, f4⟩ := HF.out T (W0 ++ [1]) HR.out
  have f3 : ∀ t ∈ T, t.size ≤ 256 := fun t ht => (f3 t ht).resolve_left (by simp)
  have f4 : ∀ x ∈ W0 ++ [1], x ≤ 9223372036854775807 := fun x hx => (f4 x hx).resolve_left (by simp)
  have hnl := HNL.out
  have h1 : 1 ≤ T.length := by
   rw [f1, hnl]
   obtain rfl := (by omega : n = 3)
   all_goals decide
  have hw9 : W0.length ≤ 16 := by
   have hc := Nat.le_trans (List.count_le_length (a := (110 : UInt8)) (l := List.take L.length [115, 110, 110])) (show _ ≤ 16 by rw [List.length_take]; exact Nat.le_trans (Nat.min_le_right _ _) (by decide))
   rw [List.length_append] at f2
   simp at f2
   omega
  have h2 : 2 ≤ W0.length := by
   have : (W0 ++ [1]).length = 3 := by
    rw [f2, hnl]
    obtain rfl := (by omega : n = 3)
    all_goals decide
   rw [List.length_append] at this
   simp at this
   omega
  have HE : Hid (resV 34 (zag [115, 110, 110] L [] []) = zco 34 T (W0 ++ [1])) := by unfold Hid; rw [HR.out]; rfl
  have l4 := zaa w3 (.cells #[.int .u8 0, .int .i64 0, .string ⟨#[]⟩] 26)
  have HX4 := Lib.hid (HX3.out.later l4)
  have HB4 := Lib.hid (zab HB3.out l4)
  have HT4 := Lib.hid (hTT.later l4)
  have HW4 := Lib.hid (hW.later l4)
  have HV := Lib.hid (fun W (hX : Below w.heap.size w W) (hW : IsW W wa0 W0.length W0) => zut (g0 T) wa0 W0.length wc W0 W hW (by omega) (n0 (W0 ++ [1])) (n1 (W0 ++ [1])) ⟨last_at (Nat.le_trans (by decide) h2), zyt h2⟩ (f4 _ (by rw [List.mem_append]; exact .inl (zbi (last_at (Nat.le_trans (by decide) h2))))) (Nat.le_trans (f3 _ (zbi (zbc h1))) (by decide)))
  clear l4 HX3 HB3 hOT hON hTT hW f1 f2 HF
  obtain ⟨nt0, bt0, ot0, ea0, lt0, ct0⟩ := zbb HT4.out (zbc h1)
  rw [Nat.add_zero] at ct0
  have EA0 := Lib.hid ea0
  clear ea0
  go_upto_region 8 with fail
  generalize w3.alloc (.cells #[.int .u8 0, .int .i64 0, .string ⟨#[]⟩] 26) = w4 at *
  have ea0 := EA0.out
  clear EA0
  subst ea0
  obtain ⟨vv, hvv⟩ : ∃ vv, zco 34 T (W0 ++ [1]) = vv := ⟨_, rfl⟩
  have HV2 : Hid (∀ W, Below w.heap.size w W → IsW W wa0 W0.length W0 → Calls Tryz.prog 82 #[.int .u8 34, .string (g0 T), .slice wa0 W0.length wc] W fun e w' => e = .returned (vOf vv) ∧ Below W.heap.size W w') := by rw [← hvv]; exact HV.out
  rw [hvv] at HE
  obtain ⟨vk, vn, vs⟩ := vv
  unfold vOf at HV2
  dsimp only at HV2
  clear HV hvv f3 f4
  go_wp2_with fail
  refine (HV2.out _ HB4.out HW4.out).mono ?_
  rintro e w6 ⟨rfl, hB6⟩
  have hX3 := HX4.out.later hB6
  have HB3 := Lib.hid (zab HB4.out hB6)
  clear hB6
  obtain ⟨x0, x1, x2, z0, z1, z2⟩ := hX3.cells
  have hXl := hX3.lt
  obtain ⟨hq, hg⟩ := zae hX3 vk vn vs
  have hb5 := HB3.out.grown hg HB3.out.size (fun q hq => by injection hq with hq; omega)
  clear hg
  go_wp2_with fail
  generalize ((w6.setCell ⟨w.heap.size, 0, none⟩ (.int .u8 (vk : Int))).setCell ⟨w.heap.size, 1, none⟩ (.int .i64 vn)).setCell ⟨w.heap.size, 2, none⟩ (.string vs) = w5 at *
  obtain ⟨v0, v1, v2, _, _, _⟩ := hq.cells
  refine bodyPost_ret (v := .tuple #[.agg #[.int .u8 (vk : Int), .int .i64 vn, .string vs], .int .i64 0]) (by simp [results, Tryz.results38, go_sem, v0, v1, v2]) rfl ⟨by rw [HE.out]; rfl, hb5⟩
set_option maxRecDepth 100000 in
set_option maxHeartbeats 6400000 in
theorem zx8 (a : Option Addr) (n cap : Nat) (L : List V3) (w : World) (hL : IsV w a n L) (hl : 1 ≤ n) (hn : n ≤ 1) (hv : ∀ v ∈ L, v.2.2.size ≤ 2000 ∧ InI v.2.1) (hb : okL L = true) (hT : Tb w) :
 Calls Tryz.prog 38 #[.int .u8 35, .slice a n cap] w fun e w' => e = .returned (.tuple #[vOf (resV 35 (zag [115] L [] [])), .int .i64 0]) ∧ Below w.heap.size w w' := by
 have HX : Hid (B3 (w.alloc (.cells #[.int .u8 0, .int .i64 0, .string ⟨#[]⟩] 26)) w.heap.size 0 0 ⟨#[]⟩) := B3.start w 0 0 ⟨#[]⟩
 have HB := Lib.hid (zaa w (.cells #[.int .u8 0, .int .i64 0, .string ⟨#[]⟩] 26))
 have HCN := Lib.hid (fun W => zaz 35 n (by omega) W yaf)
 rw [decide_eq_true (show (arV 35).1 ≤ n ∧ n ≤ (arV 35).2 from ⟨hl, hn⟩)] at HCN
 have HVA := Lib.hid (fun W hW => za3 a n cap L (by omega) W hW (fun v h => ⟨Nat.le_trans (hv v h).1 (by unfold maxLen; decide), by have := (hv v h).2; unfold InI at this; unfold zau; omega⟩))
 have HL := Lib.hid hL
 rw [hb] at HVA
 have HT := Lib.hid hT
 have HCO := Lib.hid (fun W hW hT => zaw 35 ⟨#[115]⟩ a n cap L W hW hn (by decide) (by decide) yg5 hv hT)
 have HF := Lib.hid (fun T W' => zah [115] L [] [] T W' (fun v h => (hv v h).2) (by decide))
 have HNL := Lib.hid hL.1
 rw [show (⟨#[115]⟩ : ByteArray).data.toList = [115] from rfl] at HCO
 obtain ⟨R, hR⟩ : ∃ R, zag [115] L [] [] = R := ⟨_, rfl⟩
 rw [hR] at HCO
 have HR := Lib.hid hR
 clear hL hv hT hR
 go_enter Tryz.func38, Tryz.ntmps38
 go_wp2_with fail
 generalize w.alloc (.cells #[.int .u8 0, .int .i64 0, .string ⟨#[]⟩] 26) = wa at *
 refine (HCN.out _).mono ?_
 rintro e w1 ⟨rfl, hB1⟩
 have HX1 := Lib.hid (HX.out.later hB1)
 have HB1 := Lib.hid (zab HB.out hB1)
 clear hB1 HX HB
 go_wp2_with fail
 refine (HVA.out _ (IsOf.later HL.out HB1.out)).mono ?_
 rintro e w2 ⟨rfl, hB2⟩
 have HX2 := Lib.hid (HX1.out.later hB2)
 have HB2 := Lib.hid (zab HB1.out hB2)
 clear hB2 HX1 HB1
 go_wp2_with fail
 refine (HCO.out _ (IsOf.later HL.out HB2.out) (HT.out.later HB2.out)).mono ?_
 rintro e w3 ⟨hRV, hB3⟩
 have HX3 := Lib.hid (HX2.out.later hB3)
 have HB3 := Lib.hid (zab HB2.out hB3)
 clear hB3 HX2 HB2
 clear HCN HVA HCO HL
 cases R with
 | inr x =>
  obtain ⟨xk, xn, xs⟩ := x
  obtain rfl : e = .returned (.tuple #[.slice none 0 0, .slice none 0 0, .agg #[.int .u8 (xk : Int), .int .i64 xn, .string xs], .bool false]) := hRV
  have HE : Hid (resV 35 (zag [115] L [] []) = (xk, xn, xs)) := by unfold Hid; rw [HR.out]; rfl
  have HY := Lib.hid (B3.start w3 xk xn xs)
  have l4 := zaa w3 (.cells #[.int .u8 (xk : Int), .int .i64 xn, .string xs] 26)
  have HX4 := Lib.hid (HX3.out.later l4)
  have HB4 := Lib.hid (zab HB3.out l4)
  clear l4 HX3 HB3
  go_upto_region 8 with fail
  generalize w3.alloc (.cells #[.int .u8 (xk : Int), .int .i64 xn, .string xs] 26) = w4 at *
  obtain ⟨y0, y1, y2, _, _, _⟩ := HY.out.cells
  have hyl := HY.out.lt
  have hX3 := HX4.out
  have HB3 := HB4
  obtain ⟨x0, x1, x2, z0, z1, z2⟩ := hX3.cells
  have hXl := hX3.lt
  obtain ⟨hq, hg⟩ := zae hX3 xk xn xs
  have hb5 := HB3.out.grown hg HB3.out.size (fun q hq => by injection hq with hq; omega)
  clear hg
  go_wp2_with fail
  generalize ((w4.setCell ⟨w.heap.size, 0, none⟩ (.int .u8 (xk : Int))).setCell ⟨w.heap.size, 1, none⟩ (.int .i64 xn)).setCell ⟨w.heap.size, 2, none⟩ (.string xs) = w5 at *
  obtain ⟨v0, v1, v2, _, _, _⟩ := hq.cells
  refine bodyPost_ret (v := .tuple #[.agg #[.int .u8 (xk : Int), .int .i64 xn, .string xs], .int .i64 0]) (by simp [results, Tryz.results38, go_sem, v0, v1, v2]) rfl ⟨by rw [HE.out]; rfl, hb5⟩
 | inl p =>
  obtain ⟨T, W'⟩ := p
  obtain ⟨u, v, hev, hOT, hON⟩ := hRV
  obtain rfl : e = .returned (.tuple #[u, v, .agg #[.int .u8 0, .int .i64 0, .string ⟨#[]⟩], .bool true]) := hev
  dsimp only at hOT hON
  obtain ⟨W0, rfl⟩ := za1 _ _ _ _ _ _ HR.out
  rw [List.dropLast_concat] at hON
  obtain ⟨ta, tc, rfl, hTT⟩ := hOT.isOf zaq
  obtain ⟨wa0, wc, rfl, hW⟩ := hON.isOf zap
  obtain ⟨f1, f2, f3, f4⟩ := HF.out T (W0 ++ [1]) HR.out
  have f3 : ∀ t ∈ T, t.size ≤ 256 := fun t ht => (f3 t ht).resolve_left (by simp)
  have f4 : ∀ x ∈ W0 ++ [1], x ≤ 9223372036854775807 := fun x hx => (f4 x hx).resolve_left (by simp)
  have hnl := HNL.out
  have h1 : 1 ≤ T.length := by
   rw [f1, hnl]
   obtain rfl := (by omega : n = 1)
   all_goals decide
  have hw9 : W0.length ≤ 16 := by
   have hc := Nat.le_trans (List.count_le_length (a := (110 : UInt8)) (l := List.take L.length [115])) (show _ ≤ 16 by rw [List.length_take]; exact Nat.le_trans (Nat.min_le_right _ _) (by decide))
   rw [List.length_append] at f2
   simp at f2
   omega
  have HE : Hid (resV 35 (zag [115] L [] []) = zco 35 T (W0 ++ [1])) := by unfold Hid; rw [HR.out]; rfl
  have l4 := zaa w3 (.cells #[.int .u8 0, .int .i64 0, .string ⟨#[]⟩] 26)
  have HX4 := Lib.hid (HX3.out.later l4)
  have HB4 := Lib.hid (zab HB3.out l4)
  have HT4 := Lib.hid (hTT.later l4)
  have HW4 := Lib.hid (hW.later l4)
  have HV := Lib.hid (fun W (hX : Below w.heap.size w W) (hTT : IsT W ta T.length T) (hW : IsW W wa0 W0.length W0) => yhl ta wa0 T.length tc W0.length wc T W0 W hTT hW (g0 T) (zbc h1) (Nat.le_trans (f3 _ (zbi (zbc h1))) (by decide)))
  clear l4 HX3 HB3 hOT hON hTT hW f1 f2 HF
  go_upto_region 8 with fail
  generalize w3.alloc (.cells #[.int .u8 0, .int .i64 0, .string ⟨#[]⟩] 26) = w4 at *
  obtain ⟨vv, hvv⟩ : ∃ vv, zco 35 T (W0 ++ [1]) = vv := ⟨_, rfl⟩
  have HV2 : Hid (∀ W, Below w.heap.size w W → IsT W ta T.length T → IsW W wa0 W0.length W0 → Calls Tryz.prog 83 #[.int .u8 35, .slice ta T.length tc, .slice wa0 W0.length wc] W fun e w' => e = .returned (vOf vv) ∧ Below W.heap.size W w') := by rw [← hvv]; exact HV.out
  rw [hvv] at HE
  obtain ⟨vk, vn, vs⟩ := vv
  unfold vOf at HV2
  dsimp only at HV2
  clear HV hvv f3 f4
  go_wp2_with fail
  refine (HV2.out _ HB4.out HT4.out  HW4.out).mono ?_
  rintro e w6 ⟨rfl, hB6⟩
  have hX3 := HX4.out.later hB6
  have HB3 := Lib.hid (zab HB4.out hB6)
  clear hB6
  obtain ⟨x0, x1, x2, z0, z1, z2⟩ := hX3.cells
  have hXl := hX3.lt
  obtain ⟨hq, hg⟩ := zae hX3 vk vn vs
  have hb5 := HB3.out.grown hg HB3.out.size (fun q hq => by injection hq with hq; omega)
  clear hg
  go_wp2_with fail
  generalize ((w6.setCell ⟨w.heap.size, 0, none⟩ (.int .u8 (vk : Int))).setCell ⟨w.heap.size, 1, none⟩ (.int .i64 vn)).setCell ⟨w.heap.size, 2, none⟩ (.string vs) = w5 at *
  obtain ⟨v0, v1, v2, _, _, _⟩ := hq.cells
  refine bodyPost_ret (v := .tuple #[.agg #[.int .u8 (vk : Int), .int .i64 vn, .string vs], .int .i64 0]) (by simp [results, Tryz.results38, go_sem, v0, v1, v2]) rfl ⟨by rw [HE.out]; rfl, hb5⟩
set_option maxRecDepth 100000 in
set_option maxHeartbeats 6400000 in
theorem zx7 (a : Option Addr) (n cap : Nat) (L : List V3) (w : World) (hL : IsV w a n L) (hl : 1 ≤ n) (hn : n ≤ 1) (hv : ∀ v ∈ L, v.2.2.size ≤ 2000 ∧ InI v.2.1) (hb : okL L = true) (hT : Tb w) :
 Calls Tryz.prog 38 #[.int .u8 36, .slice a n cap] w fun e w' => e = .returned (.tuple #[vOf (resV 36 (zag [115] L [] [])), .int .i64 0]) ∧ Below w.heap.size w w' := by
 have HX : Hid (B3 (w.alloc (.cells #[.int .u8 0, .int .i64 0, .string ⟨#[]⟩] 26)) w.heap.size 0 0 ⟨#[]⟩) := B3.start w 0 0 ⟨#[]⟩
 have HB := Lib.hid (zaa w (.cells #[.int .u8 0, .int .i64 0, .string ⟨#[]⟩] 26))
 have HCN := Lib.hid (fun W => zaz 36 n (by omega) W yae)
 rw [decide_eq_true (show (arV 36).1 ≤ n ∧ n ≤ (arV 36).2 from ⟨hl, hn⟩)] at HCN
 have HVA := Lib.hid (fun W hW => za3 a n cap L (by omega) W hW (fun v h => ⟨Nat.le_trans (hv v h).1 (by unfold maxLen; decide), by have := (hv v h).2; unfold InI at this; unfold zau; omega⟩))
 have HL := Lib.hid hL
 rw [hb] at HVA
 have HT := Lib.hid hT
 have HCO := Lib.hid (fun W hW hT => zaw 36 ⟨#[115]⟩ a n cap L W hW hn (by decide) (by decide) yg4 hv hT)
 have HF := Lib.hid (fun T W' => zah [115] L [] [] T W' (fun v h => (hv v h).2) (by decide))
 have HNL := Lib.hid hL.1
 rw [show (⟨#[115]⟩ : ByteArray).data.toList = [115] from rfl] at HCO
 obtain ⟨R, hR⟩ : ∃ R, zag [115] L [] [] = R := ⟨_, rfl⟩
 rw [hR] at HCO
 have HR := Lib.hid hR
 clear hL hv hT hR
 go_enter Tryz.func38, Tryz.ntmps38
 go_wp2_with fail
 generalize w.alloc (.cells #[.int .u8 0, .int .i64 0, .string ⟨#[]⟩] 26) = wa at *
 refine (HCN.out _).mono ?_
 rintro e w1 ⟨rfl, hB1⟩
 have HX1 := Lib.hid (HX.out.later hB1)
 have HB1 := Lib.hid (zab HB.out hB1)
 clear hB1 HX HB
 go_wp2_with fail
 refine (HVA.out _ (IsOf.later HL.out HB1.out)).mono ?_
 rintro e w2 ⟨rfl, hB2⟩
 have HX2 := Lib.hid (HX1.out.later hB2)
 have HB2 := Lib.hid (zab HB1.out hB2)
 clear hB2 HX1 HB1
 go_wp2_with fail
 refine (HCO.out _ (IsOf.later HL.out HB2.out) (HT.out.later HB2.out)).mono ?_
 rintro e w3 ⟨hRV, hB3⟩
 have HX3 := Lib.hid (HX2.out.later hB3)
 have HB3 := Lib.hid (zab HB2.out hB3)
 clear hB3 HX2 HB2
 clear HCN HVA HCO HL
 cases R with
 | inr x =>
  obtain ⟨xk, xn, xs⟩ := x
  obtain rfl : e = .returned (.tuple #[.slice none 0 0, .slice none 0 0, .agg #[.int .u8 (xk : Int), .int .i64 xn, .string xs], .bool false]) := hRV
  have HE : Hid (resV 36 (zag [115] L [] []) = (xk, xn, xs)) := by unfold Hid; rw [HR.out]; rfl
  have HY := Lib.hid (B3.start w3 xk xn xs)
  have l4 := zaa w3 (.cells #[.int .u8 (xk : Int), .int .i64 xn, .string xs] 26)
  have HX4 := Lib.hid (HX3.out.later l4)
  have HB4 := Lib.hid (zab HB3.out l4)
  clear l4 HX3 HB3
  go_upto_region 8 with fail
  generalize w3.alloc (.cells #[.int .u8 (xk : Int), .int .i64 xn, .string xs] 26) = w4 at *
  obtain ⟨y0, y1, y2, _, _, _⟩ := HY.out.cells
  have hyl := HY.out.lt
  have hX3 := HX4.out
  have HB3 := HB4
  obtain ⟨x0, x1, x2, z0, z1, z2⟩ := hX3.cells
  have hXl := hX3.lt
  obtain ⟨hq, hg⟩ := zae hX3 xk xn xs
  have hb5 := HB3.out.grown hg HB3.out.size (fun q hq => by injection hq with hq; omega)
  clear hg
  go_wp2_with fail
  generalize ((w4.setCell ⟨w.heap.size, 0, none⟩ (.int .u8 (xk : Int))).setCell ⟨w.heap.size, 1, none⟩ (.int .i64 xn)).setCell ⟨w.heap.size, 2, none⟩ (.string xs) = w5 at *
  obtain ⟨v0, v1, v2, _, _, _⟩ := hq.cells
  refine bodyPost_ret (v := .tuple #[.agg #[.int .u8 (xk : Int), .int .i64 xn, .string xs], .int .i64 0]) (by simp [results, Tryz.results38, go_sem, v0, v1, v2]) rfl ⟨by rw [HE.out]; rfl, hb5⟩
 | inl p =>
  obtain ⟨T, W'⟩ := p
  obtain ⟨u, v, hev, hOT, hON⟩ := hRV
  obtain rfl : e = .returned (.tuple #[u, v, .agg #[.int .u8 0, .int .i64 0, .string ⟨#[]⟩], .bool true]) := hev
  dsimp only at hOT hON
  obtain ⟨W0, rfl⟩ := za1 _ _ _ _ _ _ HR.out
  rw [List.dropLast_concat] at hON
  obtain ⟨ta, tc, rfl, hTT⟩ := hOT.isOf zaq
  obtain ⟨wa0, wc, rfl, hW⟩ := hON.isOf zap
  obtain ⟨f1, f2, f3, f4⟩ := HF.out T (W0 ++ [1]) HR.out
  have f3 : ∀ t ∈ T, t.size ≤ 256 := fun t ht => (f3 t ht).resolve_left (by simp)
  have f4 : ∀ x ∈ W0 ++ [1], x ≤ 9223372036854775807 := fun x hx => (f4 x hx).resolve_left (by simp)
  have hnl := HNL.out
  have h1 : 1 ≤ T.length := by
   rw [f1, hnl]
   obtain rfl := (by omega : n = 1)
   all_goals decide
  have hw9 : W0.length ≤ 16 := by
   have hc := Nat.le_trans (List.count_le_length (a := (110 : UInt8)) (l := List.take L.length [115])) (show _ ≤ 16 by rw [List.length_take]; exact Nat.le_trans (Nat.min_le_right _ _) (by decide))
   rw [List.length_append] at f2
   simp at f2
   omega
  have HE : Hid (resV 36 (zag [115] L [] []) = zco 36 T (W0 ++ [1])) := by unfold Hid; rw [HR.out]; rfl
  have l4 := zaa w3 (.cells #[.int .u8 0, .int .i64 0, .string ⟨#[]⟩] 26)
  have HX4 := Lib.hid (HX3.out.later l4)
  have HB4 := Lib.hid (zab HB3.out l4)
  have HT4 := Lib.hid (hTT.later l4)
  have HW4 := Lib.hid (hW.later l4)
  have HV := Lib.hid (fun W (hX : Below w.heap.size w W) (hTT : IsT W ta T.length T) (hW : IsW W wa0 W0.length W0) => yhk ta wa0 T.length tc W0.length wc T W0 W hTT hW (g0 T) (zbc h1) (Nat.le_trans (f3 _ (zbi (zbc h1))) (by decide)))
  clear l4 HX3 HB3 hOT hON hTT hW f1 f2 HF
  go_upto_region 8 with fail
  generalize w3.alloc (.cells #[.int .u8 0, .int .i64 0, .string ⟨#[]⟩] 26) = w4 at *
  obtain ⟨vv, hvv⟩ : ∃ vv, zco 36 T (W0 ++ [1]) = vv := ⟨_, rfl⟩
  have HV2 : Hid (∀ W, Below w.heap.size w W → IsT W ta T.length T → IsW W wa0 W0.length W0 → Calls Tryz.prog 83 #[.int .u8 36, .slice ta T.length tc, .slice wa0 W0.length wc] W fun e w' => e = .returned (vOf vv) ∧ Below W.heap.size W w') := by rw [← hvv]; exact HV.out
  rw [hvv] at HE
  obtain ⟨vk, vn, vs⟩ := vv
  unfold vOf at HV2
  dsimp only at HV2
  clear HV hvv f3 f4
  go_wp2_with fail
  refine (HV2.out _ HB4.out HT4.out  HW4.out).mono ?_
  rintro e w6 ⟨rfl, hB6⟩
  have hX3 := HX4.out.later hB6
  have HB3 := Lib.hid (zab HB4.out hB6)
  clear hB6
  obtain ⟨x0, x1, x2, z0, z1, z2⟩ := hX3.cells
  have hXl := hX3.lt
  obtain ⟨hq, hg⟩ := zae hX3 vk vn vs
  have hb5 := HB3.out.grown hg HB3.out.size (fun q hq => by injection hq with hq; omega)
  clear hg
  go_wp2_with fail
  generalize ((w6.setCell ⟨w.heap.size, 0, none⟩ (.int .u8 (vk : Int))).setCell ⟨w.heap.size, 1, none⟩ (.int .i64 vn)).setCell ⟨w.heap.size, 2, none⟩ (.string vs) = w5 at *
  obtain ⟨v0, v1, v2, _, _, _⟩ := hq.cells
  refine bodyPost_ret (v := .tuple #[.agg #[.int .u8 (vk : Int), .int .i64 vn, .string vs], .int .i64 0]) (by simp [results, Tryz.results38, go_sem, v0, v1, v2]) rfl ⟨by rw [HE.out]; rfl, hb5⟩
set_option maxRecDepth 100000 in
set_option maxHeartbeats 6400000 in
theorem zx6 (a : Option Addr) (n cap : Nat) (L : List V3) (w : World) (hL : IsV w a n L) (hl : 1 ≤ n) (hn : n ≤ 1) (hv : ∀ v ∈ L, v.2.2.size ≤ 2000 ∧ InI v.2.1) (hb : okL L = true) (hT : Tb w) :
 Calls Tryz.prog 38 #[.int .u8 37, .slice a n cap] w fun e w' => e = .returned (.tuple #[vOf (resV 37 (zag [115] L [] [])), .int .i64 0]) ∧ Below w.heap.size w w' := by
 have HX : Hid (B3 (w.alloc (.cells #[.int .u8 0, .int .i64 0, .string ⟨#[]⟩] 26)) w.heap.size 0 0 ⟨#[]⟩) := B3.start w 0 0 ⟨#[]⟩
 have HB := Lib.hid (zaa w (.cells #[.int .u8 0, .int .i64 0, .string ⟨#[]⟩] 26))
 have HCN := Lib.hid (fun W => zaz 37 n (by omega) W yad)
 rw [decide_eq_true (show (arV 37).1 ≤ n ∧ n ≤ (arV 37).2 from ⟨hl, hn⟩)] at HCN
 have HVA := Lib.hid (fun W hW => za3 a n cap L (by omega) W hW (fun v h => ⟨Nat.le_trans (hv v h).1 (by unfold maxLen; decide), by have := (hv v h).2; unfold InI at this; unfold zau; omega⟩))
 have HL := Lib.hid hL
 rw [hb] at HVA
 have HT := Lib.hid hT
 have HCO := Lib.hid (fun W hW hT => zaw 37 ⟨#[115]⟩ a n cap L W hW hn (by decide) (by decide) yg3 hv hT)
 have HF := Lib.hid (fun T W' => zah [115] L [] [] T W' (fun v h => (hv v h).2) (by decide))
 have HNL := Lib.hid hL.1
 rw [show (⟨#[115]⟩ : ByteArray).data.toList = [115] from rfl] at HCO
 obtain ⟨R, hR⟩ : ∃ R, zag [115] L [] [] = R := ⟨_, rfl⟩
 rw [hR] at HCO
 have HR := Lib.hid hR
 clear hL hv hT hR
 go_enter Tryz.func38, Tryz.ntmps38
 go_wp2_with fail
 generalize w.alloc (.cells #[.int .u8 0, .int .i64 0, .string ⟨#[]⟩] 26) = wa at *
 refine (HCN.out _).mono ?_
 rintro e w1 ⟨rfl, hB1⟩
 have HX1 := Lib.hid (HX.out.later hB1)
 have HB1 := Lib.hid (zab HB.out hB1)
 clear hB1 HX HB
 go_wp2_with fail
 refine (HVA.out _ (IsOf.later HL.out HB1.out)).mono ?_
 rintro e w2 ⟨rfl, hB2⟩
 have HX2 := Lib.hid (HX1.out.later hB2)
 have HB2 := Lib.hid (zab HB1.out hB2)
 clear hB2 HX1 HB1
 go_wp2_with fail
 refine (HCO.out _ (IsOf.later HL.out HB2.out) (HT.out.later HB2.out)).mono ?_
 rintro e w3 ⟨hRV, hB3⟩
 have HX3 := Lib.hid (HX2.out.later hB3)
 have HB3 := Lib.hid (zab HB2.out hB3)
 clear hB3 HX2 HB2
 clear HCN HVA HCO HL
 cases R with
 | inr x =>
  obtain ⟨xk, xn, xs⟩ := x
  obtain rfl : e = .returned (.tuple #[.slice none 0 0, .slice none 0 0, .agg #[.int .u8 (xk : Int), .int .i64 xn, .string xs], .bool false]) := hRV
  have HE : Hid (resV 37 (zag [115] L [] []) = (xk, xn, xs)) := by unfold Hid; rw [HR.out]; rfl
  have HY := Lib.hid (B3.start w3 xk xn xs)
  have l4 := zaa w3 (.cells #[.int .u8 (xk : Int), .int .i64 xn, .string xs] 26)
  have HX4 := Lib.hid (HX3.out.later l4)
  have HB4 := Lib.hid (zab HB3.out l4)
  clear l4 HX3 HB3
  go_upto_region 8 with fail
  generalize w3.alloc (.cells #[.int .u8 (xk : Int), .int .i64 xn, .string xs] 26) = w4 at *
  obtain ⟨y0, y1, y2, _, _, _⟩ := HY.out.cells
  have hyl := HY.out.lt
  have hX3 := HX4.out
  have HB3 := HB4
  obtain ⟨x0, x1, x2, z0, z1, z2⟩ := hX3.cells
  have hXl := hX3.lt
  obtain ⟨hq, hg⟩ := zae hX3 xk xn xs
  have hb5 := HB3.out.grown hg HB3.out.size (fun q hq => by injection hq with hq; omega)
  clear hg
  go_wp2_with fail
  generalize ((w4.setCell ⟨w.heap.size, 0, none⟩ (.int .u8 (xk : Int))).setCell ⟨w.heap.size, 1, none⟩ (.int .i64 xn)).setCell ⟨w.heap.size, 2, none⟩ (.string xs) = w5 at *
  obtain ⟨v0, v1, v2, _, _, _⟩ := hq.cells
  refine bodyPost_ret (v := .tuple #[.agg #[.int .u8 (xk : Int), .int .i64 xn, .string xs], .int .i64 0]) (by simp [results, Tryz.results38, go_sem, v0, v1, v2]) rfl ⟨by rw [HE.out]; rfl, hb5⟩
 | inl p =>
  obtain ⟨T, W'⟩ := p
  obtain ⟨u, v, hev, hOT, hON⟩ := hRV
  obtain rfl : e = .returned (.tuple #[u, v, .agg #[.int .u8 0, .int .i64 0, .string ⟨#[]⟩], .bool true]) := hev
  dsimp only at hOT hON
  obtain ⟨W0, rfl⟩ := za1 _ _ _ _ _ _ HR.out
  rw [List.dropLast_concat] at hON
  obtain ⟨ta, tc, rfl, hTT⟩ := hOT.isOf zaq
  obtain ⟨wa0, wc, rfl, hW⟩ := hON.isOf zap
  obtain ⟨f1, f2, f3, f4⟩ := HF.out T (W0 ++ [1]) HR.out
  have f3 : ∀ t ∈ T, t.size ≤ 256 := fun t ht => (f3 t ht).resolve_left (by simp)
  have f4 : ∀ x ∈ W0 ++ [1], x ≤ 9223372036854775807 := fun x hx => (f4 x hx).resolve_left (by simp)
  have hnl := HNL.out
  have h1 : 1 ≤ T.length := by
   rw [f1, hnl]
   obtain rfl := (by omega : n = 1)
   all_goals decide
  have hw9 : W0.length ≤ 16 := by
   have hc := Nat.le_trans (List.count_le_length (a := (110 : UInt8)) (l := List.take L.length [115])) (show _ ≤ 16 by rw [List.length_take]; exact Nat.le_trans (Nat.min_le_right _ _) (by decide))
   rw [List.length_append] at f2
   simp at f2
   omega
  have HE : Hid (resV 37 (zag [115] L [] []) = zco 37 T (W0 ++ [1])) := by unfold Hid; rw [HR.out]; rfl
  have l4 := zaa w3 (.cells #[.int .u8 0, .int .i64 0, .string ⟨#[]⟩] 26)
  have HX4 := Lib.hid (HX3.out.later l4)
  have HB4 := Lib.hid (zab HB3.out l4)
  have HT4 := Lib.hid (hTT.later l4)
  have HW4 := Lib.hid (hW.later l4)
  have HV := Lib.hid (fun W (hX : Below w.heap.size w W) (hTT : IsT W ta T.length T) (hW : IsW W wa0 W0.length W0) => yhj ta wa0 T.length tc W0.length wc T W0 W hTT hW (g0 T) (zbc h1) (Nat.le_trans (f3 _ (zbi (zbc h1))) (by decide)))
  clear l4 HX3 HB3 hOT hON hTT hW f1 f2 HF
  go_upto_region 8 with fail
  generalize w3.alloc (.cells #[.int .u8 0, .int .i64 0, .string ⟨#[]⟩] 26) = w4 at *
  obtain ⟨vv, hvv⟩ : ∃ vv, zco 37 T (W0 ++ [1]) = vv := ⟨_, rfl⟩
  have HV2 : Hid (∀ W, Below w.heap.size w W → IsT W ta T.length T → IsW W wa0 W0.length W0 → Calls Tryz.prog 83 #[.int .u8 37, .slice ta T.length tc, .slice wa0 W0.length wc] W fun e w' => e = .returned (vOf vv) ∧ Below W.heap.size W w') := by rw [← hvv]; exact HV.out
  rw [hvv] at HE
  obtain ⟨vk, vn, vs⟩ := vv
  unfold vOf at HV2
  dsimp only at HV2
  clear HV hvv f3 f4
  go_wp2_with fail
  refine (HV2.out _ HB4.out HT4.out  HW4.out).mono ?_
  rintro e w6 ⟨rfl, hB6⟩
  have hX3 := HX4.out.later hB6
  have HB3 := Lib.hid (zab HB4.out hB6)
  clear hB6
  obtain ⟨x0, x1, x2, z0, z1, z2⟩ := hX3.cells
  have hXl := hX3.lt
  obtain ⟨hq, hg⟩ := zae hX3 vk vn vs
  have hb5 := HB3.out.grown hg HB3.out.size (fun q hq => by injection hq with hq; omega)
  clear hg
  go_wp2_with fail
  generalize ((w6.setCell ⟨w.heap.size, 0, none⟩ (.int .u8 (vk : Int))).setCell ⟨w.heap.size, 1, none⟩ (.int .i64 vn)).setCell ⟨w.heap.size, 2, none⟩ (.string vs) = w5 at *
  obtain ⟨v0, v1, v2, _, _, _⟩ := hq.cells
  refine bodyPost_ret (v := .tuple #[.agg #[.int .u8 (vk : Int), .int .i64 vn, .string vs], .int .i64 0]) (by simp [results, Tryz.results38, go_sem, v0, v1, v2]) rfl ⟨by rw [HE.out]; rfl, hb5⟩
set_option maxRecDepth 100000 in
set_option maxHeartbeats 6400000 in
theorem zx5 (a : Option Addr) (n cap : Nat) (L : List V3) (w : World) (hL : IsV w a n L) (hl : 1 ≤ n) (hn : n ≤ 16) (hv : ∀ v ∈ L, v.2.2.size ≤ 2000 ∧ InI v.2.1) (hb : okL L = true) (hT : Tb w) :
 Calls Tryz.prog 38 #[.int .u8 38, .slice a n cap] w fun e w' => e = .returned (.tuple #[vOf (resV 38 (zag [115, 115, 115, 115, 115, 115, 115, 115, 115, 115, 115, 115, 115, 115, 115, 115] L [] [])), .int .i64 0]) ∧ Below w.heap.size w w' := by
 have HX : Hid (B3 (w.alloc (.cells #[.int .u8 0, .int .i64 0, .string ⟨#[]⟩] 26)) w.heap.size 0 0 ⟨#[]⟩) := B3.start w 0 0 ⟨#[]⟩
 have HB := Lib.hid (zaa w (.cells #[.int .u8 0, .int .i64 0, .string ⟨#[]⟩] 26))
 have HCN := Lib.hid (fun W => zaz 38 n (by omega) W yac)
 rw [decide_eq_true (show (arV 38).1 ≤ n ∧ n ≤ (arV 38).2 from ⟨hl, hn⟩)] at HCN
 have HVA := Lib.hid (fun W hW => za3 a n cap L (by omega) W hW (fun v h => ⟨Nat.le_trans (hv v h).1 (by unfold maxLen; decide), by have := (hv v h).2; unfold InI at this; unfold zau; omega⟩))
 have HL := Lib.hid hL
 rw [hb] at HVA
 have HT := Lib.hid hT
 have HCO := Lib.hid (fun W hW hT => zaw 38 ⟨#[115, 115, 115, 115, 115, 115, 115, 115, 115, 115, 115, 115, 115, 115, 115, 115]⟩ a n cap L W hW hn (by decide) (by decide) yg2 hv hT)
 have HF := Lib.hid (fun T W' => zah [115, 115, 115, 115, 115, 115, 115, 115, 115, 115, 115, 115, 115, 115, 115, 115] L [] [] T W' (fun v h => (hv v h).2) (by decide))
 have HNL := Lib.hid hL.1
 rw [show (⟨#[115, 115, 115, 115, 115, 115, 115, 115, 115, 115, 115, 115, 115, 115, 115, 115]⟩ : ByteArray).data.toList = [115, 115, 115, 115, 115, 115, 115, 115, 115, 115, 115, 115, 115, 115, 115, 115] from rfl] at HCO
 obtain ⟨R, hR⟩ : ∃ R, zag [115, 115, 115, 115, 115, 115, 115, 115, 115, 115, 115, 115, 115, 115, 115, 115] L [] [] = R := ⟨_, rfl⟩
 rw [hR] at HCO
 have HR := Lib.hid hR
 clear hL hv hT hR
 go_enter Tryz.func38, Tryz.ntmps38
 go_wp2_with fail
 generalize w.alloc (.cells #[.int .u8 0, .int .i64 0, .string ⟨#[]⟩] 26) = wa at *
 refine (HCN.out _).mono ?_
 rintro e w1 ⟨rfl, hB1⟩
 have HX1 := Lib.hid (HX.out.later hB1)
 have HB1 := Lib.hid (zab HB.out hB1)
 clear hB1 HX HB
 go_wp2_with fail
 refine (HVA.out _ (IsOf.later HL.out HB1.out)).mono ?_
 rintro e w2 ⟨rfl, hB2⟩
 have HX2 := Lib.hid (HX1.out.later hB2)
 have HB2 := Lib.hid (zab HB1.out hB2)
 clear hB2 HX1 HB1
 go_wp2_with fail
 refine (HCO.out _ (IsOf.later HL.out HB2.out) (HT.out.later HB2.out)).mono ?_
 rintro e w3 ⟨hRV, hB3⟩
 have HX3 := Lib.hid (HX2.out.later hB3)
 have HB3 := Lib.hid (zab HB2.out hB3)
 clear hB3 HX2 HB2
 clear HCN HVA HCO HL
 cases R with
 | inr x =>
  obtain ⟨xk, xn, xs⟩ := x
  obtain rfl : e = .returned (.tuple #[.slice none 0 0, .slice none 0 0, .agg #[.int .u8 (xk : Int), .int .i64 xn, .string xs], .bool false]) := hRV
  have HE : Hid (resV 38 (zag [115, 115, 115, 115, 115, 115, 115, 115, 115, 115, 115, 115, 115, 115, 115, 115] L [] []) = (xk, xn, xs)) := by unfold Hid; rw [HR.out]; rfl
  have HY := Lib.hid (B3.start w3 xk xn xs)
  have l4 := zaa w3 (.cells #[.int .u8 (xk : Int), .int .i64 xn, .string xs] 26)
  have HX4 := Lib.hid (HX3.out.later l4)
  have HB4 := Lib.hid (zab HB3.out l4)
  clear l4 HX3 HB3
  go_upto_region 8 with fail
  generalize w3.alloc (.cells #[.int .u8 (xk : Int), .int .i64 xn, .string xs] 26) = w4 at *
  obtain ⟨y0, y1, y2, _, _, _⟩ := HY.out.cells
  have hyl := HY.out.lt
  have hX3 := HX4.out
  have HB3 := HB4
  obtain ⟨x0, x1, x2, z0, z1, z2⟩ := hX3.cells
  have hXl := hX3.lt
  obtain ⟨hq, hg⟩ := zae hX3 xk xn xs
  have hb5 := HB3.out.grown hg HB3.out.size (fun q hq => by injection hq with hq; omega)
  clear hg
  go_wp2_with fail
  generalize ((w4.setCell ⟨w.heap.size, 0, none⟩ (.int .u8 (xk : Int))).setCell ⟨w.heap.size, 1, none⟩ (.int .i64 xn)).setCell ⟨w.heap.size, 2, none⟩ (.string xs) = w5 at *
  obtain ⟨v0, v1, v2, _, _, _⟩ := hq.cells
  refine bodyPost_ret (v := .tuple #[.agg #[.int .u8 (xk : Int), .int .i64 xn, .string xs], .int .i64 0]) (by simp [results, Tryz.results38, go_sem, v0, v1, v2]) rfl ⟨by rw [HE.out]; rfl, hb5⟩
 | inl p =>
  obtain ⟨T, W'⟩ := p
  obtain ⟨u, v, hev, hOT, hON⟩ := hRV
  obtain rfl : e = .returned (.tuple #[u, v, .agg #[.int .u8 0, .int .i64 0, .string ⟨#[]⟩], .bool true]) := hev
  dsimp only at hOT hON
  obtain ⟨W0, rfl⟩ := za1 _ _ _ _ _ _ HR.out
  rw [List.dropLast_concat] at hON
  obtain ⟨ta, tc, rfl, hTT⟩ := hOT.isOf zaq
  obtain ⟨wa0, wc, rfl, hW⟩ := hON.isOf zap
  obtain ⟨f1, f2, f3, f4⟩ := HF.out T (W0 ++ [1]) HR.out
  have f3 : ∀ t ∈ T, t.size ≤ 256 := fun t ht => (f3 t ht).resolve_left (by simp)
  have f4 : ∀ x ∈ W0 ++ [1], x ≤ 9223372036854775807 := fun x hx => (f4 x hx).resolve_left (by simp)
  have hnl := HNL.out
  have hc16 : (List.take L.length [115, 115, 115, 115, 115, 115, 115, 115, 115, 115, 115, 115, 115, 115, 115, 115]).count (115 : UInt8) ≤ 16 := Nat.le_trans List.count_le_length (by rw [List.length_take]; exact Nat.min_le_right _ _)
  have h1 : T.length ≤ 16 := by rw [f1]; simpa using hc16
  have hw9 : W0.length ≤ 16 := by
   have hc := Nat.le_trans (List.count_le_length (a := (110 : UInt8)) (l := List.take L.length [115, 115, 115, 115, 115, 115, 115, 115, 115, 115, 115, 115, 115, 115, 115, 115])) (show _ ≤ 16 by rw [List.length_take]; exact Nat.le_trans (Nat.min_le_right _ _) (by decide))
   rw [List.length_append] at f2
   simp at f2
   omega
  have HE : Hid (resV 38 (zag [115, 115, 115, 115, 115, 115, 115, 115, 115, 115, 115, 115, 115, 115, 115, 115] L [] []) = zco 38 T (W0 ++ [1])) := by unfold Hid; rw [HR.out]; rfl
  have l4 := zaa w3 (.cells #[.int .u8 0, .int .i64 0, .string ⟨#[]⟩] 26)
  have HX4 := Lib.hid (HX3.out.later l4)
  have HB4 := Lib.hid (zab HB3.out l4)
  have HT4 := Lib.hid (hTT.later l4)
  have HW4 := Lib.hid (hW.later l4)
  have HV := Lib.hid (fun W (hX : Below w.heap.size w W) (hTT : IsT W ta T.length T) (hW : IsW W wa0 W0.length W0) => yhi ta wa0 T.length tc W0.length wc T W0 W hTT hW f3 (by omega))
  clear l4 HX3 HB3 hOT hON hTT hW f1 f2 HF
  go_upto_region 8 with fail
  generalize w3.alloc (.cells #[.int .u8 0, .int .i64 0, .string ⟨#[]⟩] 26) = w4 at *
  obtain ⟨vv, hvv⟩ : ∃ vv, zco 38 T (W0 ++ [1]) = vv := ⟨_, rfl⟩
  have HV2 : Hid (∀ W, Below w.heap.size w W → IsT W ta T.length T → IsW W wa0 W0.length W0 → Calls Tryz.prog 83 #[.int .u8 38, .slice ta T.length tc, .slice wa0 W0.length wc] W fun e w' => e = .returned (vOf vv) ∧ Below W.heap.size W w') := by rw [← hvv]; exact HV.out
  rw [hvv] at HE
  obtain ⟨vk, vn, vs⟩ := vv
  unfold vOf at HV2
  dsimp only at HV2
  clear HV hvv f3 f4
  go_wp2_with fail
  refine (HV2.out _ HB4.out HT4.out  HW4.out).mono ?_
  rintro e w6 ⟨rfl, hB6⟩
  have hX3 := HX4.out.later hB6
  have HB3 := Lib.hid (zab HB4.out hB6)
  clear hB6
  obtain ⟨x0, x1, x2, z0, z1, z2⟩ := hX3.cells
  have hXl := hX3.lt
  obtain ⟨hq, hg⟩ := zae hX3 vk vn vs
  have hb5 := HB3.out.grown hg HB3.out.size (fun q hq => by injection hq with hq; omega)
  clear hg
  go_wp2_with fail
  generalize ((w6.setCell ⟨w.heap.size, 0, none⟩ (.int .u8 (vk : Int))).setCell ⟨w.heap.size, 1, none⟩ (.int .i64 vn)).setCell ⟨w.heap.size, 2, none⟩ (.string vs) = w5 at *
  obtain ⟨v0, v1, v2, _, _, _⟩ := hq.cells
  refine bodyPost_ret (v := .tuple #[.agg #[.int .u8 (vk : Int), .int .i64 vn, .string vs], .int .i64 0]) (by simp [results, Tryz.results38, go_sem, v0, v1, v2]) rfl ⟨by rw [HE.out]; rfl, hb5⟩
set_option maxRecDepth 100000 in
set_option maxHeartbeats 6400000 in
theorem zx4 (a : Option Addr) (n cap : Nat) (L : List V3) (w : World) (hL : IsV w a n L) (hl : 2 ≤ n) (hn : n ≤ 2) (hv : ∀ v ∈ L, v.2.2.size ≤ 2000 ∧ InI v.2.1) (hb : okL L = true) (hT : Tb w) :
 Calls Tryz.prog 38 #[.int .u8 39, .slice a n cap] w fun e w' => e = .returned (.tuple #[vOf (resV 39 (zag [115, 110] L [] [])), .int .i64 0]) ∧ Below w.heap.size w w' := by
 have HX : Hid (B3 (w.alloc (.cells #[.int .u8 0, .int .i64 0, .string ⟨#[]⟩] 26)) w.heap.size 0 0 ⟨#[]⟩) := B3.start w 0 0 ⟨#[]⟩
 have HB := Lib.hid (zaa w (.cells #[.int .u8 0, .int .i64 0, .string ⟨#[]⟩] 26))
 have HCN := Lib.hid (fun W => zaz 39 n (by omega) W yab)
 rw [decide_eq_true (show (arV 39).1 ≤ n ∧ n ≤ (arV 39).2 from ⟨hl, hn⟩)] at HCN
 have HVA := Lib.hid (fun W hW => za3 a n cap L (by omega) W hW (fun v h => ⟨Nat.le_trans (hv v h).1 (by unfold maxLen; decide), by have := (hv v h).2; unfold InI at this; unfold zau; omega⟩))
 have HL := Lib.hid hL
 rw [hb] at HVA
 have HT := Lib.hid hT
 have HCO := Lib.hid (fun W hW hT => zaw 39 ⟨#[115, 110]⟩ a n cap L W hW hn (by decide) (by decide) yg1 hv hT)
 have HF := Lib.hid (fun T W' => zah [115, 110] L [] [] T W' (fun v h => (hv v h).2) (by decide))
 have HNL := Lib.hid hL.1
 rw [show (⟨#[115, 110]⟩ : ByteArray).data.toList = [115, 110] from rfl] at HCO
 obtain ⟨R, hR⟩ : ∃ R, zag [115, 110] L [] [] = R := ⟨_, rfl⟩
 rw [hR] at HCO
 have HR := Lib.hid hR
 clear hL hv hT hR
 go_enter Tryz.func38, Tryz.ntmps38
 go_wp2_with fail
 generalize w.alloc (.cells #[.int .u8 0, .int .i64 0, .string ⟨#[]⟩] 26) = wa at *
 refine (HCN.out _).mono ?_
 rintro e w1 ⟨rfl, hB1⟩
 have HX1 := Lib.hid (HX.out.later hB1)
 have HB1 := Lib.hid (zab HB.out hB1)
 clear hB1 HX HB
 go_wp2_with fail
 refine (HVA.out _ (IsOf.later HL.out HB1.out)).mono ?_
 rintro e w2 ⟨rfl, hB2⟩
 have HX2 := Lib.hid (HX1.out.later hB2)
 have HB2 := Lib.hid (zab HB1.out hB2)
 clear hB2 HX1 HB1
 go_wp2_with fail
 refine (HCO.out _ (IsOf.later HL.out HB2.out) (HT.out.later HB2.out)).mono ?_
 rintro e w3 ⟨hRV, hB3⟩
 have HX3 := Lib.hid (HX2.out.later hB3)
 have HB3 := Lib.hid (zab HB2.out hB3)
 clear hB3 HX2 HB2
 clear HCN HVA HCO HL
 cases R with
 | inr x =>
  obtain ⟨xk, xn, xs⟩ := x
  obtain rfl : e = .returned (.tuple #[.slice none 0 0, .slice none 0 0, .agg #[.int .u8 (xk : Int), .int .i64 xn, .string xs], .bool false]) := hRV
  have HE : Hid (resV 39 (zag [115, 110] L [] []) = (xk, xn, xs)) := by unfold Hid; rw [HR.out]; rfl
  have HY := Lib.hid (B3.start w3 xk xn xs)
  have l4 := zaa w3 (.cells #[.int .u8 (xk : Int), .int .i64 xn, .string xs] 26)
  have HX4 := Lib.hid (HX3.out.later l4)
  have HB4 := Lib.hid (zab HB3.out l4)
  clear l4 HX3 HB3
  go_upto_region 8 with fail
  generalize w3.alloc (.cells #[.int .u8 (xk : Int), .int .i64 xn, .string xs] 26) = w4 at *
  obtain ⟨y0, y1, y2, _, _, _⟩ := HY.out.cells
  have hyl := HY.out.lt
  have hX3 := HX4.out
  have HB3 := HB4
  obtain ⟨x0, x1, x2, z0, z1, z2⟩ := hX3.cells
  have hXl := hX3.lt
  obtain ⟨hq, hg⟩ := zae hX3 xk xn xs
  have hb5 := HB3.out.grown hg HB3.out.size (fun q hq => by injection hq with hq; omega)
  clear hg
  go_wp2_with fail
  generalize ((w4.setCell ⟨w.heap.size, 0, none⟩ (.int .u8 (xk : Int))).setCell ⟨w.heap.size, 1, none⟩ (.int .i64 xn)).setCell ⟨w.heap.size, 2, none⟩ (.string xs) = w5 at *
  obtain ⟨v0, v1, v2, _, _, _⟩ := hq.cells
  refine bodyPost_ret (v := .tuple #[.agg #[.int .u8 (xk : Int), .int .i64 xn, .string xs], .int .i64 0]) (by simp [results, Tryz.results38, go_sem, v0, v1, v2]) rfl ⟨by rw [HE.out]; rfl, hb5⟩
 | inl p =>
  obtain ⟨T, W'⟩ := p
  obtain ⟨u, v, hev, hOT, hON⟩ := hRV
  obtain rfl : e = .returned (.tuple #[u, v, .agg #[.int .u8 0, .int .i64 0, .string ⟨#[]⟩], .bool true]) := hev
  dsimp only at hOT hON
  obtain ⟨W0, rfl⟩ := za1 _ _ _ _ _ _ HR.out
  rw [List.dropLast_concat] at hON
  obtain ⟨ta, tc, rfl, hTT⟩ := hOT.isOf zaq
  obtain ⟨wa0, wc, rfl, hW⟩ := hON.isOf zap
  obtain ⟨f1, f2, f3, f4⟩ := HF.out T (W0 ++ [1]) HR.out
  have f3 : ∀ t ∈ T, t.size ≤ 256 := fun t ht => (f3 t ht).resolve_left (by simp)
  have f4 : ∀ x ∈ W0 ++ [1], x ≤ 9223372036854775807 := fun x hx => (f4 x hx).resolve_left (by simp)
  have hnl := HNL.out
  have h1 : 1 ≤ T.length := by
   rw [f1, hnl]
   obtain rfl := (by omega : n = 2)
   all_goals decide
  have hw9 : W0.length ≤ 16 := by
   have hc := Nat.le_trans (List.count_le_length (a := (110 : UInt8)) (l := List.take L.length [115, 110])) (show _ ≤ 16 by rw [List.length_take]; exact Nat.le_trans (Nat.min_le_right _ _) (by decide))
   rw [List.length_append] at f2
   simp at f2
   omega
  have h2 : 1 ≤ W0.length := by
   have : (W0 ++ [1]).length = 2 := by
    rw [f2, hnl]
    obtain rfl := (by omega : n = 2)
    all_goals decide
   rw [List.length_append] at this
   simp at this
   omega
  have HE : Hid (resV 39 (zag [115, 110] L [] []) = zco 39 T (W0 ++ [1])) := by unfold Hid; rw [HR.out]; rfl
  have l4 := zaa w3 (.cells #[.int .u8 0, .int .i64 0, .string ⟨#[]⟩] 26)
  have HX4 := Lib.hid (HX3.out.later l4)
  have HB4 := Lib.hid (zab HB3.out l4)
  have HT4 := Lib.hid (hTT.later l4)
  have HW4 := Lib.hid (hW.later l4)
  have HV := Lib.hid (fun W (hX : Below w.heap.size w W) (hTT : IsT W ta T.length T) (hW : IsW W wa0 W0.length W0) => yhh ta wa0 T.length tc W0.length wc T W0 W hTT hW (g0 T) (zbc h1) (Nat.le_trans (f3 _ (zbi (zbc h1))) (by decide)) (n0 (W0 ++ [1])) (last_at h2) (f4 _ (by rw [List.mem_append]; exact .inl (zbi (last_at h2)))))
  clear l4 HX3 HB3 hOT hON hTT hW f1 f2 HF
  go_upto_region 8 with fail
  generalize w3.alloc (.cells #[.int .u8 0, .int .i64 0, .string ⟨#[]⟩] 26) = w4 at *
  obtain ⟨vv, hvv⟩ : ∃ vv, zco 39 T (W0 ++ [1]) = vv := ⟨_, rfl⟩
  have HV2 : Hid (∀ W, Below w.heap.size w W → IsT W ta T.length T → IsW W wa0 W0.length W0 → Calls Tryz.prog 83 #[.int .u8 39, .slice ta T.length tc, .slice wa0 W0.length wc] W fun e w' => e = .returned (vOf vv) ∧ Below W.heap.size W w') := by rw [← hvv]; exact HV.out
  rw [hvv] at HE
  obtain ⟨vk, vn, vs⟩ := vv
  unfold vOf at HV2
  dsimp only at HV2
  clear HV hvv f3 f4
  go_wp2_with fail
  refine (HV2.out _ HB4.out HT4.out  HW4.out).mono ?_
  rintro e w6 ⟨rfl, hB6⟩
  have hX3 := HX4.out.later hB6
  have HB3 := Lib.hid (zab HB4.out hB6)
  clear hB6
  obtain ⟨x0, x1, x2, z0, z1, z2⟩ := hX3.cells
  have hXl := hX3.lt
  obtain ⟨hq, hg⟩ := zae hX3 vk vn vs
  have hb5 := HB3.out.grown hg HB3.out.size (fun q hq => by injection hq with hq; omega)
  clear hg
  go_wp2_with fail
  generalize ((w6.setCell ⟨w.heap.size, 0, none⟩ (.int .u8 (vk : Int))).setCell ⟨w.heap.size, 1, none⟩ (.int .i64 vn)).setCell ⟨w.heap.size, 2, none⟩ (.string vs) = w5 at *
  obtain ⟨v0, v1, v2, _, _, _⟩ := hq.cells
  refine bodyPost_ret (v := .tuple #[.agg #[.int .u8 (vk : Int), .int .i64 vn, .string vs], .int .i64 0]) (by simp [results, Tryz.results38, go_sem, v0, v1, v2]) rfl ⟨by rw [HE.out]; rfl, hb5⟩
set_option maxRecDepth 100000 in
set_option maxHeartbeats 6400000 in
theorem zx3 (a : Option Addr) (n cap : Nat) (L : List V3) (w : World) (hL : IsV w a n L) (hl : 2 ≤ n) (hn : n ≤ 2) (hv : ∀ v ∈ L, v.2.2.size ≤ 2000 ∧ InI v.2.1) (hb : okL L = true) (hT : Tb w) :
 Calls Tryz.prog 38 #[.int .u8 40, .slice a n cap] w fun e w' => e = .returned (.tuple #[vOf (resV 40 (zag [115, 115] L [] [])), .int .i64 0]) ∧ Below w.heap.size w w' := by
 have HX : Hid (B3 (w.alloc (.cells #[.int .u8 0, .int .i64 0, .string ⟨#[]⟩] 26)) w.heap.size 0 0 ⟨#[]⟩) := B3.start w 0 0 ⟨#[]⟩
 have HB := Lib.hid (zaa w (.cells #[.int .u8 0, .int .i64 0, .string ⟨#[]⟩] 26))
 have HCN := Lib.hid (fun W => zaz 40 n (by omega) W yaa)
 rw [decide_eq_true (show (arV 40).1 ≤ n ∧ n ≤ (arV 40).2 from ⟨hl, hn⟩)] at HCN
 have HVA := Lib.hid (fun W hW => za3 a n cap L (by omega) W hW (fun v h => ⟨Nat.le_trans (hv v h).1 (by unfold maxLen; decide), by have := (hv v h).2; unfold InI at this; unfold zau; omega⟩))
 have HL := Lib.hid hL
 rw [hb] at HVA
 have HT := Lib.hid hT
 have HCO := Lib.hid (fun W hW hT => zaw 40 ⟨#[115, 115]⟩ a n cap L W hW hn (by decide) (by decide) yg0 hv hT)
 have HF := Lib.hid (fun T W' => zah [115, 115] L [] [] T W' (fun v h => (hv v h).2) (by decide))
 have HNL := Lib.hid hL.1
 rw [show (⟨#[115, 115]⟩ : ByteArray).data.toList = [115, 115] from rfl] at HCO
 obtain ⟨R, hR⟩ : ∃ R, zag [115, 115] L [] [] = R := ⟨_, rfl⟩
 rw [hR] at HCO
 have HR := Lib.hid hR
 clear hL hv hT hR
 go_enter Tryz.func38, Tryz.ntmps38
 go_wp2_with fail
 generalize w.alloc (.cells #[.int .u8 0, .int .i64 0, .string ⟨#[]⟩] 26) = wa at *
 refine (HCN.out _).mono ?_
 rintro e w1 ⟨rfl, hB1⟩
 have HX1 := Lib.hid (HX.out.later hB1)
 have HB1 := Lib.hid (zab HB.out hB1)
 clear hB1 HX HB
 go_wp2_with fail
 refine (HVA.out _ (IsOf.later HL.out HB1.out)).mono ?_
 rintro e w2 ⟨rfl, hB2⟩
 have HX2 := Lib.hid (HX1.out.later hB2)
 have HB2 := Lib.hid (zab HB1.out hB2)
 clear hB2 HX1 HB1
 go_wp2_with fail
 refine (HCO.out _ (IsOf.later HL.out HB2.out) (HT.out.later HB2.out)).mono ?_
 rintro e w3 ⟨hRV, hB3⟩
 have HX3 := Lib.hid (HX2.out.later hB3)
 have HB3 := Lib.hid (zab HB2.out hB3)
 clear hB3 HX2 HB2
 clear HCN HVA HCO HL
 cases R with
 | inr x =>
  obtain ⟨xk, xn, xs⟩ := x
  obtain rfl : e = .returned (.tuple #[.slice none 0 0, .slice none 0 0, .agg #[.int .u8 (xk : Int), .int .i64 xn, .string xs], .bool false]) := hRV
  have HE : Hid (resV 40 (zag [115, 115] L [] []) = (xk, xn, xs)) := by unfold Hid; rw [HR.out]; rfl
  have HY := Lib.hid (B3.start w3 xk xn xs)
  have l4 := zaa w3 (.cells #[.int .u8 (xk : Int), .int .i64 xn, .string xs] 26)
  have HX4 := Lib.hid (HX3.out.later l4)
  have HB4 := Lib.hid (zab HB3.out l4)
  clear l4 HX3 HB3
  go_upto_region 8 with fail
  generalize w3.alloc (.cells #[.int .u8 (xk : Int), .int .i64 xn, .string xs] 26) = w4 at *
  obtain ⟨y0, y1, y2, _, _, _⟩ := HY.out.cells
  have hyl := HY.out.lt
  have hX3 := HX4.out
  have HB3 := HB4
  obtain ⟨x0, x1, x2, z0, z1, z2⟩ := hX3.cells
  have hXl := hX3.lt
  obtain ⟨hq, hg⟩ := zae hX3 xk xn xs
  have hb5 := HB3.out.grown hg HB3.out.size (fun q hq => by injection hq with hq; omega)
  clear hg
  go_wp2_with fail
  generalize ((w4.setCell ⟨w.heap.size, 0, none⟩ (.int .u8 (xk : Int))).setCell ⟨w.heap.size, 1, none⟩ (.int .i64 xn)).setCell ⟨w.heap.size, 2, none⟩ (.string xs) = w5 at *
  obtain ⟨v0, v1, v2, _, _, _⟩ := hq.cells
  refine bodyPost_ret (v := .tuple #[.agg #[.int .u8 (xk : Int), .int .i64 xn, .string xs], .int .i64 0]) (by simp [results, Tryz.results38, go_sem, v0, v1, v2]) rfl ⟨by rw [HE.out]; rfl, hb5⟩
 | inl p =>
  obtain ⟨T, W'⟩ := p
  obtain ⟨u, v, hev, hOT, hON⟩ := hRV
  obtain rfl : e = .returned (.tuple #[u, v, .agg #[.int .u8 0, .int .i64 0, .string ⟨#[]⟩], .bool true]) := hev
  dsimp only at hOT hON
  obtain ⟨W0, rfl⟩ := za1 _ _ _ _ _ _ HR.out
  rw [List.dropLast_concat] at hON
  obtain ⟨ta, tc, rfl, hTT⟩ := hOT.isOf zaq
  obtain ⟨wa0, wc, rfl, hW⟩ := hON.isOf zap
  obtain ⟨f1, f2, f3, f4⟩ := HF.out T (W0 ++ [1]) HR.out
  have f3 : ∀ t ∈ T, t.size ≤ 256 := fun t ht => (f3 t ht).resolve_left (by simp)
  have f4 : ∀ x ∈ W0 ++ [1], x ≤ 9223372036854775807 := fun x hx => (f4 x hx).resolve_left (by simp)
  have hnl := HNL.out
  have h1 : 2 ≤ T.length := by
   rw [f1, hnl]
   obtain rfl := (by omega : n = 2)
   all_goals decide
  have hw9 : W0.length ≤ 16 := by
   have hc := Nat.le_trans (List.count_le_length (a := (110 : UInt8)) (l := List.take L.length [115, 115])) (show _ ≤ 16 by rw [List.length_take]; exact Nat.le_trans (Nat.min_le_right _ _) (by decide))
   rw [List.length_append] at f2
   simp at f2
   omega
  have HE : Hid (resV 40 (zag [115, 115] L [] []) = zco 40 T (W0 ++ [1])) := by unfold Hid; rw [HR.out]; rfl
  have l4 := zaa w3 (.cells #[.int .u8 0, .int .i64 0, .string ⟨#[]⟩] 26)
  have HX4 := Lib.hid (HX3.out.later l4)
  have HB4 := Lib.hid (zab HB3.out l4)
  have HT4 := Lib.hid (hTT.later l4)
  have HW4 := Lib.hid (hW.later l4)
  have HV := Lib.hid (fun W (hX : Below w.heap.size w W) (hTT : IsT W ta T.length T) (hW : IsW W wa0 W0.length W0) => yhg ta wa0 T.length tc W0.length wc T W0 W hTT hW (g0 T) (g1 T) (zbc (Nat.le_trans (by decide) h1)) (zs5 h1))
  clear l4 HX3 HB3 hOT hON hTT hW f1 f2 HF
  go_upto_region 8 with fail
  generalize w3.alloc (.cells #[.int .u8 0, .int .i64 0, .string ⟨#[]⟩] 26) = w4 at *
  obtain ⟨vv, hvv⟩ : ∃ vv, zco 40 T (W0 ++ [1]) = vv := ⟨_, rfl⟩
  have HV2 : Hid (∀ W, Below w.heap.size w W → IsT W ta T.length T → IsW W wa0 W0.length W0 → Calls Tryz.prog 83 #[.int .u8 40, .slice ta T.length tc, .slice wa0 W0.length wc] W fun e w' => e = .returned (vOf vv) ∧ Below W.heap.size W w') := by rw [← hvv]; exact HV.out
  rw [hvv] at HE
  obtain ⟨vk, vn, vs⟩ := vv
  unfold vOf at HV2
  dsimp only at HV2
  clear HV hvv f3 f4
  go_wp2_with fail
  refine (HV2.out _ HB4.out HT4.out  HW4.out).mono ?_
  rintro e w6 ⟨rfl, hB6⟩
  have hX3 := HX4.out.later hB6
  have HB3 := Lib.hid (zab HB4.out hB6)
  clear hB6
  obtain ⟨x0, x1, x2, z0, z1, z2⟩ := hX3.cells
  have hXl := hX3.lt
  obtain ⟨hq, hg⟩ := zae hX3 vk vn vs
  have hb5 := HB3.out.grown hg HB3.out.size (fun q hq => by injection hq with hq; omega)
  clear hg
  go_wp2_with fail
  generalize ((w6.setCell ⟨w.heap.size, 0, none⟩ (.int .u8 (vk : Int))).setCell ⟨w.heap.size, 1, none⟩ (.int .i64 vn)).setCell ⟨w.heap.size, 2, none⟩ (.string vs) = w5 at *
  obtain ⟨v0, v1, v2, _, _, _⟩ := hq.cells
  refine bodyPost_ret (v := .tuple #[.agg #[.int .u8 (vk : Int), .int .i64 vn, .string vs], .int .i64 0]) (by simp [results, Tryz.results38, go_sem, v0, v1, v2]) rfl ⟨by rw [HE.out]; rfl, hb5⟩
set_option maxRecDepth 100000 in
set_option maxHeartbeats 6400000 in
theorem zx2 (a : Option Addr) (n cap : Nat) (L : List V3) (w : World) (hL : IsV w a n L) (hl : 2 ≤ n) (hn : n ≤ 3) (hv : ∀ v ∈ L, v.2.2.size ≤ 2000 ∧ InI v.2.1) (hb : okL L = true) (hT : Tb w) :
 Calls Tryz.prog 38 #[.int .u8 41, .slice a n cap] w fun e w' => e = .returned (.tuple #[vOf (resV 41 (zag [115, 115, 110] L [] [])), .int .i64 0]) ∧ Below w.heap.size w w' := by
 have HX : Hid (B3 (w.alloc (.cells #[.int .u8 0, .int .i64 0, .string ⟨#[]⟩] 26)) w.heap.size 0 0 ⟨#[]⟩) := B3.start w 0 0 ⟨#[]⟩
 have HB := Lib.hid (zaa w (.cells #[.int .u8 0, .int .i64 0, .string ⟨#[]⟩] 26))
 have HCN := Lib.hid (fun W => zaz 41 n (by omega) W zz9)
 rw [decide_eq_true (show (arV 41).1 ≤ n ∧ n ≤ (arV 41).2 from ⟨hl, hn⟩)] at HCN
 have HVA := Lib.hid (fun W hW => za3 a n cap L (by omega) W hW (fun v h => ⟨Nat.le_trans (hv v h).1 (by unfold maxLen; decide), by have := (hv v h).2; unfold InI at this; unfold zau; omega⟩))
 have HL := Lib.hid hL
 rw [hb] at HVA
 have HT := Lib.hid hT
 have HCO := Lib.hid (fun W hW hT => zaw 41 ⟨#[115, 115, 110]⟩ a n cap L W hW hn (by decide) (by decide) ygz hv hT)
 have HF := Lib.hid (fun T W' => zah [115, 115, 110] L [] [] T W' (fun v h => (hv v h).2) (by decide))
 have HNL := Lib.hid hL.1
 rw [show (⟨#[115, 115, 110]⟩ : ByteArray).data.toList = [115, 115, 110] from rfl] at HCO
 obtain ⟨R, hR⟩ : ∃ R, zag [115, 115, 110] L [] [] = R := ⟨_, rfl⟩
 rw [hR] at HCO
 have HR := Lib.hid hR
 clear hL hv hT hR
 go_enter Tryz.func38, Tryz.ntmps38
 go_wp2_with fail
 generalize w.alloc (.cells #[.int .u8 0, .int .i64 0, .string ⟨#[]⟩] 26) = wa at *
 refine (HCN.out _).mono ?_
 rintro e w1 ⟨rfl, hB1⟩
 have HX1 := Lib.hid (HX.out.later hB1)
 have HB1 := Lib.hid (zab HB.out hB1)
 clear hB1 HX HB
 go_wp2_with fail
 refine (HVA.out _ (IsOf.later HL.out HB1.out)).mono ?_
 rintro e w2 ⟨rfl, hB2⟩
 have HX2 := Lib.hid (HX1.out.later hB2)
 have HB2 := Lib.hid (zab HB1.out hB2)
 clear hB2 HX1 HB1
 go_wp2_with fail
 refine (HCO.out _ (IsOf.later HL.out HB2.out) (HT.out.later HB2.out)).mono ?_
 rintro e w3 ⟨hRV, hB3⟩
 have HX3 := Lib.hid (HX2.out.later hB3)
 have HB3 := Lib.hid (zab HB2.out hB3)
 clear hB3 HX2 HB2
 clear HCN HVA HCO HL
 cases R with
 | inr x =>
  obtain ⟨xk, xn, xs⟩ := x
  obtain rfl : e = .returned (.tuple #[.slice none 0 0, .slice none 0 0, .agg #[.int .u8 (xk : Int), .int .i64 xn, .string xs], .bool false]) := hRV
  have HE : Hid (resV 41 (zag [115, 115, 110] L [] []) = (xk, xn, xs)) := by unfold Hid; rw [HR.out]; rfl
  have HY := Lib.hid (B3.start w3 xk xn xs)
  have l4 := zaa w3 (.cells #[.int .u8 (xk : Int), .int .i64 xn, .string xs] 26)
  have HX4 := Lib.hid (HX3.out.later l4)
  have HB4 := Lib.hid (zab HB3.out l4)
  clear l4 HX3 HB3
  go_upto_region 8 with fail
  generalize w3.alloc (.cells #[.int .u8 (xk : Int), .int .i64 xn, .string xs] 26) = w4 at *
  obtain ⟨y0, y1, y2, _, _, _⟩ := HY.out.cells
  have hyl := HY.out.lt
  have hX3 := HX4.out
  have HB3 := HB4
  obtain ⟨x0, x1, x2, z0, z1, z2⟩ := hX3.cells
  have hXl := hX3.lt
  obtain ⟨hq, hg⟩ := zae hX3 xk xn xs
  have hb5 := HB3.out.grown hg HB3.out.size (fun q hq => by injection hq with hq; omega)
  clear hg
  go_wp2_with fail
  generalize ((w4.setCell ⟨w.heap.size, 0, none⟩ (.int .u8 (xk : Int))).setCell ⟨w.heap.size, 1, none⟩ (.int .i64 xn)).setCell ⟨w.heap.size, 2, none⟩ (.string xs) = w5 at *
  obtain ⟨v0, v1, v2, _, _, _⟩ := hq.cells
  refine bodyPost_ret (v := .tuple #[.agg #[.int .u8 (xk : Int), .int .i64 xn, .string xs], .int .i64 0]) (by simp [results, Tryz.results38, go_sem, v0, v1, v2]) rfl ⟨by rw [HE.out]; rfl, hb5⟩
 | inl p =>
  obtain ⟨T, W'⟩ := p
  obtain ⟨u, v, hev, hOT, hON⟩ := hRV
  obtain rfl : e = .returned (.tuple #[u, v, .agg #[.int .u8 0, .int .i64 0, .string ⟨#[]⟩], .bool true]) := hev
  dsimp only at hOT hON
  obtain ⟨W0, rfl⟩ := za1 _ _ _ _ _ _ HR.out
  rw [List.dropLast_concat] at hON
  obtain ⟨ta, tc, rfl, hTT⟩ := hOT.isOf zaq
  obtain ⟨wa0, wc, rfl, hW⟩ := hON.isOf zap
  obtain ⟨f1, f2, f3, f4⟩ := HF.out T (W0 ++ [1]) HR.out
  have f3 : ∀ t ∈ T, t.size ≤ 256 := fun t ht => (f3 t ht).resolve_left (by simp)
  have f4 : ∀ x ∈ W0 ++ [1], x ≤ 9223372036854775807 := fun x hx => (f4 x hx).resolve_left (by simp)
  have hnl := HNL.out
  have h1 : 2 ≤ T.length := by
   rw [f1, hnl]
   obtain rfl | rfl := (by omega : n = 2 ∨ n = 3)
   all_goals decide
  have hw9 : W0.length ≤ 16 := by
   have hc := Nat.le_trans (List.count_le_length (a := (110 : UInt8)) (l := List.take L.length [115, 115, 110])) (show _ ≤ 16 by rw [List.length_take]; exact Nat.le_trans (Nat.min_le_right _ _) (by decide))
   rw [List.length_append] at f2
   simp at f2
   omega
  have hn0 : n0 (W0 ++ [1]) ≤ 9223372036854775807 := by
   rcases zmh W0 with ⟨_, h⟩ | h
   · rw [h]; decide
   · exact f4 _ (by rw [List.mem_append]; exact .inl (zbi h))
  have HE : Hid (resV 41 (zag [115, 115, 110] L [] []) = zco 41 T (W0 ++ [1])) := by unfold Hid; rw [HR.out]; rfl
  have l4 := zaa w3 (.cells #[.int .u8 0, .int .i64 0, .string ⟨#[]⟩] 26)
  have HX4 := Lib.hid (HX3.out.later l4)
  have HB4 := Lib.hid (zab HB3.out l4)
  have HT4 := Lib.hid (hTT.later l4)
  have HW4 := Lib.hid (hW.later l4)
  have HV := Lib.hid (fun W (hX : Below w.heap.size w W) (hTT : IsT W ta T.length T) (hW : IsW W wa0 W0.length W0) => yhf ta wa0 T.length tc W0.length wc T W0 W hTT hW (g0 T) (g1 T) (zbc (Nat.le_trans (by decide) h1)) (zs5 h1) (Nat.le_trans (f3 _ (zbi (zbc (Nat.le_trans (by decide) h1)))) (by decide)) (Nat.le_trans (f3 _ (zbi (zs5 h1))) (by decide)) (n0 (W0 ++ [1])) hn0 (zmh W0) (by omega))
  clear l4 HX3 HB3 hOT hON hTT hW f1 f2 HF
  go_upto_region 8 with fail
  generalize w3.alloc (.cells #[.int .u8 0, .int .i64 0, .string ⟨#[]⟩] 26) = w4 at *
  obtain ⟨vv, hvv⟩ : ∃ vv, zco 41 T (W0 ++ [1]) = vv := ⟨_, rfl⟩
  have HV2 : Hid (∀ W, Below w.heap.size w W → IsT W ta T.length T → IsW W wa0 W0.length W0 → Calls Tryz.prog 83 #[.int .u8 41, .slice ta T.length tc, .slice wa0 W0.length wc] W fun e w' => e = .returned (vOf vv) ∧ Below W.heap.size W w') := by rw [← hvv]; exact HV.out
  rw [hvv] at HE
  obtain ⟨vk, vn, vs⟩ := vv
  unfold vOf at HV2
  dsimp only at HV2
  clear HV hvv f3 f4
  go_wp2_with fail
  refine (HV2.out _ HB4.out HT4.out  HW4.out).mono ?_
  rintro e w6 ⟨rfl, hB6⟩
  have hX3 := HX4.out.later hB6
  have HB3 := Lib.hid (zab HB4.out hB6)
  clear hB6
  obtain ⟨x0, x1, x2, z0, z1, z2⟩ := hX3.cells
  have hXl := hX3.lt
  obtain ⟨hq, hg⟩ := zae hX3 vk vn vs
  have hb5 := HB3.out.grown hg HB3.out.size (fun q hq => by injection hq with hq; omega)
  clear hg
  go_wp2_with fail
  generalize ((w6.setCell ⟨w.heap.size, 0, none⟩ (.int .u8 (vk : Int))).setCell ⟨w.heap.size, 1, none⟩ (.int .i64 vn)).setCell ⟨w.heap.size, 2, none⟩ (.string vs) = w5 at *
  obtain ⟨v0, v1, v2, _, _, _⟩ := hq.cells
  refine bodyPost_ret (v := .tuple #[.agg #[.int .u8 (vk : Int), .int .i64 vn, .string vs], .int .i64 0]) (by simp [results, Tryz.results38, go_sem, v0, v1, v2]) rfl ⟨by rw [HE.out]; rfl, hb5⟩
set_option maxRecDepth 100000 in
set_option maxHeartbeats 6400000 in
theorem zx1 (a : Option Addr) (n cap : Nat) (L : List V3) (w : World) (hL : IsV w a n L) (hl : 1 ≤ n) (hn : n ≤ 1) (hv : ∀ v ∈ L, v.2.2.size ≤ 2000 ∧ InI v.2.1) (hb : okL L = true) (hT : Tb w) :
 Calls Tryz.prog 38 #[.int .u8 42, .slice a n cap] w fun e w' => e = .returned (.tuple #[vOf (resV 42 (zag [115] L [] [])), .int .i64 0]) ∧ Below w.heap.size w w' := by
 have HX : Hid (B3 (w.alloc (.cells #[.int .u8 0, .int .i64 0, .string ⟨#[]⟩] 26)) w.heap.size 0 0 ⟨#[]⟩) := B3.start w 0 0 ⟨#[]⟩
 have HB := Lib.hid (zaa w (.cells #[.int .u8 0, .int .i64 0, .string ⟨#[]⟩] 26))
 have HCN := Lib.hid (fun W => zaz 42 n (by omega) W zz8)
 rw [decide_eq_true (show (arV 42).1 ≤ n ∧ n ≤ (arV 42).2 from ⟨hl, hn⟩)] at HCN
 have HVA := Lib.hid (fun W hW => za3 a n cap L (by omega) W hW (fun v h => ⟨Nat.le_trans (hv v h).1 (by unfold maxLen; decide), by have := (hv v h).2; unfold InI at this; unfold zau; omega⟩))
 have HL := Lib.hid hL
 rw [hb] at HVA
 have HT := Lib.hid hT
 have HCO := Lib.hid (fun W hW hT => zaw 42 ⟨#[115]⟩ a n cap L W hW hn (by decide) (by decide) ygy hv hT)
 have HF := Lib.hid (fun T W' => zah [115] L [] [] T W' (fun v h => (hv v h).2) (by decide))
 have HNL := Lib.hid hL.1
 rw [show (⟨#[115]⟩ : ByteArray).data.toList = [115] from rfl] at HCO
 obtain ⟨R, hR⟩ : ∃ R, zag [115] L [] [] = R := ⟨_, rfl⟩
 rw [hR] at HCO
 have HR := Lib.hid hR
 clear hL hv hT hR
 go_enter Tryz.func38, Tryz.ntmps38
 go_wp2_with fail
 generalize w.alloc (.cells #[.int .u8 0, .int .i64 0, .string ⟨#[]⟩] 26) = wa at *
 refine (HCN.out _).mono ?_
 rintro e w1 ⟨rfl, hB1⟩
 have HX1 := Lib.hid (HX.out.later hB1)
 have HB1 := Lib.hid (zab HB.out hB1)
 clear hB1 HX HB
 go_wp2_with fail
 refine (HVA.out _ (IsOf.later HL.out HB1.out)).mono ?_
 rintro e w2 ⟨rfl, hB2⟩
 have HX2 := Lib.hid (HX1.out.later hB2)
 have HB2 := Lib.hid (zab HB1.out hB2)
 clear hB2 HX1 HB1
 go_wp2_with fail
 refine (HCO.out _ (IsOf.later HL.out HB2.out) (HT.out.later HB2.out)).mono ?_
 rintro e w3 ⟨hRV, hB3⟩
 have HX3 := Lib.hid (HX2.out.later hB3)
 have HB3 := Lib.hid (zab HB2.out hB3)
 clear hB3 HX2 HB2
 clear HCN HVA HCO HL
 cases R with
 | inr x =>
  obtain ⟨xk, xn, xs⟩ := x
  obtain rfl : e = .returned (.tuple #[.slice none 0 0, .slice none 0 0, .agg #[.int .u8 (xk : Int), .int .i64 xn, .string xs], .bool false]) := hRV
  have HE : Hid (resV 42 (zag [115] L [] []) = (xk, xn, xs)) := by unfold Hid; rw [HR.out]; rfl
  have HY := Lib.hid (B3.start w3 xk xn xs)
  have l4 := zaa w3 (.cells #[.int .u8 (xk : Int), .int .i64 xn, .string xs] 26)
  have HX4 := Lib.hid (HX3.out.later l4)
  have HB4 := Lib.hid (zab HB3.out l4)
  clear l4 HX3 HB3
  go_upto_region 8 with fail
  generalize w3.alloc (.cells #[.int .u8 (xk : Int), .int .i64 xn, .string xs] 26) = w4 at *
  obtain ⟨y0, y1, y2, _, _, _⟩ := HY.out.cells
  have hyl := HY.out.lt
  have hX3 := HX4.out
  have HB3 := HB4
  obtain ⟨x0, x1, x2, z0, z1, z2⟩ := hX3.cells
  have hXl := hX3.lt
  obtain ⟨hq, hg⟩ := zae hX3 xk xn xs
  have hb5 := HB3.out.grown hg HB3.out.size (fun q hq => by injection hq with hq; omega)
  clear hg
  go_wp2_with fail
  generalize ((w4.setCell ⟨w.heap.size, 0, none⟩ (.int .u8 (xk : Int))).setCell ⟨w.heap.size, 1, none⟩ (.int .i64 xn)).setCell ⟨w.heap.size, 2, none⟩ (.string xs) = w5 at *
  obtain ⟨v0, v1, v2, _, _, _⟩ := hq.cells
  refine bodyPost_ret (v := .tuple #[.agg #[.int .u8 (xk : Int), .int .i64 xn, .string xs], .int .i64 0]) (by simp [results, Tryz.results38, go_sem, v0, v1, v2]) rfl ⟨by rw [HE.out]; rfl, hb5⟩
 | inl p =>
  obtain ⟨T, W'⟩ := p
  obtain ⟨u, v, hev, hOT, hON⟩ := hRV
  obtain rfl : e = .returned (.tuple #[u, v, .agg #[.int .u8 0, .int .i64 0, .string ⟨#[]⟩], .bool true]) := hev
  dsimp only at hOT hON
  obtain ⟨W0, rfl⟩ := za1 _ _ _ _ _ _ HR.out
  rw [List.dropLast_concat] at hON
  obtain ⟨ta, tc, rfl, hTT⟩ := hOT.isOf zaq
  obtain ⟨wa0, wc, rfl, hW⟩ := hON.isOf zap
  obtain ⟨f1, f2, f3, f4⟩ := HF.out T (W0 ++ [1]) HR.out
  have f3 : ∀ t ∈ T, t.size ≤ 256 := fun t ht => (f3 t ht).resolve_left (by simp)
  have f4 : ∀ x ∈ W0 ++ [1], x ≤ 9223372036854775807 := fun x hx => (f4 x hx).resolve_left (by simp)
  have hnl := HNL.out
  have h1 : 1 ≤ T.length := by
   rw [f1, hnl]
   obtain rfl := (by omega : n = 1)
   all_goals decide
  have hw9 : W0.length ≤ 16 := by
   have hc := Nat.le_trans (List.count_le_length (a := (110 : UInt8)) (l := List.take L.length [115])) (show _ ≤ 16 by rw [List.length_take]; exact Nat.le_trans (Nat.min_le_right _ _) (by decide))
   rw [List.length_append] at f2
   simp at f2
   omega
  have HE : Hid (resV 42 (zag [115] L [] []) = zco 42 T (W0 ++ [1])) := by unfold Hid; rw [HR.out]; rfl
  have l4 := zaa w3 (.cells #[.int .u8 0, .int .i64 0, .string ⟨#[]⟩] 26)
  have HX4 := Lib.hid (HX3.out.later l4)
  have HB4 := Lib.hid (zab HB3.out l4)
  have HT4 := Lib.hid (hTT.later l4)
  have HW4 := Lib.hid (hW.later l4)
  have HV := Lib.hid (fun W (hX : Below w.heap.size w W) (hTT : IsT W ta T.length T) (hW : IsW W wa0 W0.length W0) => yhe ta wa0 T.length tc W0.length wc T W0 W hTT hW (g0 T) (zbc h1) (f3 _ (zbi (zbc h1))) (HT.out.later hX))
  clear l4 HX3 HB3 hOT hON hTT hW f1 f2 HF
  go_upto_region 8 with fail
  generalize w3.alloc (.cells #[.int .u8 0, .int .i64 0, .string ⟨#[]⟩] 26) = w4 at *
  obtain ⟨vv, hvv⟩ : ∃ vv, zco 42 T (W0 ++ [1]) = vv := ⟨_, rfl⟩
  have HV2 : Hid (∀ W, Below w.heap.size w W → IsT W ta T.length T → IsW W wa0 W0.length W0 → Calls Tryz.prog 83 #[.int .u8 42, .slice ta T.length tc, .slice wa0 W0.length wc] W fun e w' => e = .returned (vOf vv) ∧ Below W.heap.size W w') := by rw [← hvv]; exact HV.out
  rw [hvv] at HE
  obtain ⟨vk, vn, vs⟩ := vv
  unfold vOf at HV2
  dsimp only at HV2
  clear HV hvv f3 f4
  go_wp2_with fail
  refine (HV2.out _ HB4.out HT4.out  HW4.out).mono ?_
  rintro e w6 ⟨rfl, hB6⟩
  have hX3 := HX4.out.later hB6
  have HB3 := Lib.hid (zab HB4.out hB6)
  clear hB6
  obtain ⟨x0, x1, x2, z0, z1, z2⟩ := hX3.cells
  have hXl := hX3.lt
  obtain ⟨hq, hg⟩ := zae hX3 vk vn vs
  have hb5 := HB3.out.grown hg HB3.out.size (fun q hq => by injection hq with hq; omega)
  clear hg
  go_wp2_with fail
  generalize ((w6.setCell ⟨w.heap.size, 0, none⟩ (.int .u8 (vk : Int))).setCell ⟨w.heap.size, 1, none⟩ (.int .i64 vn)).setCell ⟨w.heap.size, 2, none⟩ (.string vs) = w5 at *
  obtain ⟨v0, v1, v2, _, _, _⟩ := hq.cells
  refine bodyPost_ret (v := .tuple #[.agg #[.int .u8 (vk : Int), .int .i64 vn, .string vs], .int .i64 0]) (by simp [results, Tryz.results38, go_sem, v0, v1, v2]) rfl ⟨by rw [HE.out]; rfl, hb5⟩
end Go.Proofs.YtdhahiodnmmkeaaGreatDoor.Va
/- The reference's Call in full; the law's list of arguments. -/
namespace Go.Proofs.YtdhahiodnmmkeaaGreatDoor.Va
open Go Go.RowKit GM
set_option linter.unusedVariables false
set_option linter.unusedSimpArgs false
theorem ygu (fn : Nat) (h1 : 31 ≤ fn) (h2 : fn ≤ 42) : (arV fn).1 = (patV fn).2 ∧ (arV fn).2 = (patV fn).1.size := by
 obtain rfl | rfl | rfl | rfl | rfl | rfl | rfl | rfl | rfl | rfl | rfl | rfl := (by omega : fn = 31 ∨ fn = 32 ∨ fn = 33 ∨ fn = 34 ∨ fn = 35 ∨ fn = 36 ∨ fn = 37 ∨ fn = 38 ∨ fn = 39 ∨ fn = 40 ∨ fn = 41 ∨ fn = 42)
 all_goals exact ⟨rfl, rfl⟩
theorem zu0 (fn : Nat) (a : Option Addr) (n cap : Nat) (L : List V3) (w : World) (hL : IsV w a n L) (hn : n ≤ 20) (hv : ∀ v ∈ L, v.2.2.size ≤ 2000 ∧ InI v.2.1) (hT : Tb w) :
 Calls Tryz.prog 38 #[.int .u8 (fn : Int), .slice a n cap] w fun e w' => e = .returned (.tuple #[vOf (callV fn L).1, .int .i64 (callV fn L).2]) ∧ Below w.heap.size w w' := by
 have hnl := hL.1
 by_cases hf : fn < 31 ∨ 42 < fn
 · have e : callV fn L = ((0, 0, ⟨#[]⟩), 10) := if_pos hf
   rw [e]
   exact zsi fn hf a n cap w
 obtain ⟨p1, p2⟩ := ygu fn (by omega) (by omega)
 by_cases hc : L.length < (patV fn).2 ∨ (patV fn).1.size < L.length
 · have e : callV fn L = ((0, 0, ⟨#[]⟩), 11) := by unfold callV; rw [if_neg hf, if_pos hc]
   rw [e]
   exact zpb fn (by omega) (by omega) a n cap hn (by rw [p1, p2, ← hnl]; omega) w
 by_cases hb : okL L = false
 · have e : callV fn L = ((0, 0, ⟨#[]⟩), 2) := by unfold callV; rw [if_neg hf, if_neg hc]; exact if_pos hb
   rw [e]
   exact zuz fn (by omega) (by omega) a n cap L hn (by rw [p1, p2, ← hnl]; omega) w hL hv hb
 have e : callV fn L = (resV fn (zag (patV fn).1.data.toList L [] []), 0) := by unfold callV; rw [if_neg hf, if_neg hc]; exact if_neg hb
 rw [e]
 have hb' : okL L = true := by cases h : okL L <;> simp_all
 have h1 : (patV fn).2 ≤ n := by omega
 have h2 : n ≤ (patV fn).1.size := by omega
 obtain rfl | rfl | rfl | rfl | rfl | rfl | rfl | rfl | rfl | rfl | rfl | rfl := (by omega : fn = 31 ∨ fn = 32 ∨ fn = 33 ∨ fn = 34 ∨ fn = 35 ∨ fn = 36 ∨ fn = 37 ∨ fn = 38 ∨ fn = 39 ∨ fn = 40 ∨ fn = 41 ∨ fn = 42)
 · exact zyc a n cap L w hL h1 h2 hv hb' hT
 · exact zyb a n cap L w hL h1 h2 hv hb' hT
 · exact zya a n cap L w hL h1 h2 hv hb' hT
 · exact zx9 a n cap L w hL h1 h2 hv hb' hT
 · exact zx8 a n cap L w hL h1 h2 hv hb' hT
 · exact zx7 a n cap L w hL h1 h2 hv hb' hT
 · exact zx6 a n cap L w hL h1 h2 hv hb' hT
 · exact zx5 a n cap L w hL h1 h2 hv hb' hT
 · exact zx4 a n cap L w hL h1 h2 hv hb' hT
 · exact zx3 a n cap L w hL h1 h2 hv hb' hT
 · exact zx2 a n cap L w hL h1 h2 hv hb' hT
 · exact zx1 a n cap L w hL h1 h2 hv hb' hT
end Go.Proofs.YtdhahiodnmmkeaaGreatDoor.Va
