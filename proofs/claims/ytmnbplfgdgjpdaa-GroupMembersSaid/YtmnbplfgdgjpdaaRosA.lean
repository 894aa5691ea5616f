/- Contracts of roster: New, change, Login, Logout, In. -/
import Derived.Test.YtmnbplfgdgjpdaaBitA
import Derived.RegionTactic
import Derived.BigRegion
import Derived.BigQuiet
import Derived.StillTailTactics
import Derived.Laws.OwnMore
namespace Go.Proofs.Ytmnbplfgdgjpdaa
open Go.RowKit
theorem bcell {W w1 : World} (hb : Below W.heap.size W w1) : (∀ b o, b < W.heap.size → w1.cell? ⟨b, o, none⟩ = W.cell? ⟨b, o, none⟩) ∧ (∀ b o, b < W.heap.size → w1.frozen? ⟨b, o, none⟩ = W.frozen? ⟨b, o, none⟩) :=
  ⟨fun b o h => hb.cell (p := ⟨b, o, none⟩) h, fun b o h => hb.frozen (p := ⟨b, o, none⟩) h⟩
theorem Below.next {W w1 w2 : World} (h : Below W.heap.size W w1) (k : Below w1.heap.size w1 w2) : Below W.heap.size W w2 := h.trans (k.mono h.size)
def bitI (b : Bool) : Int := if b then 1 else 0
/-- Block b holds a roster of n users; S: who is logged in. -/
def Ros (w : World) (b : Nat) (n : Int) (S : Nat → Bool) : Prop :=
  b < w.heap.size ∧ w.cell? ⟨b, 0, none⟩ = some (.int .i64 n) ∧ (∀ i, i < 64 → w.cell? ⟨b, 1 + i, none⟩ = some (.int .i64 (bitI (S i)))) ∧ ∀ o, w.frozen? ⟨b, o, none⟩ = false
theorem rnew_bad (n : Int) (h : n < 1 ∨ 64 < n) (w : World) : Calls Try.prog 22 #[.int .i64 n] w fun e w' => e = .returned (.tuple #[.pointer none, .int .i64 3]) ∧ w = w' := by
  rcases h with h | h
  · go_enter Try.func22, Try.ntmps22
    go_wp2_with fail
    go_ret2
    exact ⟨rfl, rfl⟩
  · have h1 : ¬ n < 1 := by omega
    go_enter Try.func22, Try.ntmps22
    go_wp2_with fail
    go_ret2
    exact ⟨rfl, rfl⟩
def Z65 : Array Value := Array.replicate 65 (.int .i64 0)
theorem infoRos : (Try.prog.info? 64).map (fun i => (i.zero, i.size)) = some (some (.agg Z65), 65) := by kernel_rfl
theorem zvRos (w : World) : (zeroValue 64).run Try.prog w = .ok (.agg Z65) w := by
  have h := infoRos
  cases hi : Try.prog.info? 64 with
  | none => rw [hi] at h; simp at h
  | some i =>
    rw [hi] at h
    simp only [Option.map_some, Option.some.injEq, Prod.mk.injEq] at h
    simp [zeroValue, typeInfo, hi, h.1]
theorem Z65_ne : ¬ Z65 = #[] := by intro h; have := congrArg Array.size h; unfold Z65 at this; simp at this
def rosC (n : Int) : Array Value := Z65.setIfInBounds 0 (.int .i64 n)
theorem rosC_eq (n : Int) : Z65.setIfInBounds 0 (.int .i64 n) = rosC n := rfl
theorem rosC_0 (n : Int) : (rosC n)[0]? = some (.int .i64 n) := by simp [rosC, Z65]
theorem rosC_i (n : Int) (i : Nat) (h : i < 64) : (rosC n)[1 + i]? = some (.int .i64 0) := by
  unfold rosC Z65
  rw [Array.getElem?_setIfInBounds_ne (by omega), Array.getElem?_eq_getElem (by simp; omega), Array.getElem_replicate]
theorem below_alloc (w : World) (o : Obj) : Below w.heap.size w (w.alloc o) := (Below.refl _ _).alloc (Nat.le_refl _) _
theorem Ros.fresh (w : World) (n : Int) : Ros (w.alloc (.cells (rosC n) 64)) w.heap.size n (fun _ => false) := by
  have h0 := rosC_0 n
  have h1 := rosC_i n
  generalize rosC n = c at *
  refine ⟨by simp, by simpa using h0, fun i hi => by simpa [bitI] using h1 i hi, fun o => by simp⟩
theorem Ros.later {w w' : World} {b : Nat} {n : Int} {S : Nat → Bool} (h : Ros w b n S) (hB : Below w.heap.size w w') : Ros w' b n S := by
  obtain ⟨h0, h1, h2, h3⟩ := h
  obtain ⟨hc, hf⟩ := bcell hB
  have hz := hB.size
  exact ⟨by omega, by rw [hc _ _ h0]; exact h1, fun i hi => by rw [hc _ _ h0]; exact h2 i hi, fun o => by rw [hf _ _ h0]; exact h3 o⟩
theorem rnew_ok (n : Int) (h1 : 1 ≤ n) (h2 : n ≤ 64) (w : World) : Calls Try.prog 22 #[.int .i64 n] w fun e w' => e = .returned (.tuple #[.pointer (some ⟨w.heap.size, 0, none⟩), .int .i64 0]) ∧ Ros w' w.heap.size n (fun _ => false) ∧ Below w.heap.size w w' := by
  have hz := zvRos
  have hne := Z65_ne
  have hre := rosC_eq n
  go_enter Try.func22, Try.ntmps22
  go_wp2_with fail
  go_ret2
  exact ⟨rfl, Ros.fresh w n, below_alloc w _⟩
theorem in_any (n : Int) (w : World) : Calls Try.prog 35 #[.int .i64 n] w fun e w' => e = .returned (.bool (decide (0 < n))) ∧ w = w' := by
  go_enter Try.func35, Try.ntmps35
  go_wp2_with fail
  go_ret
  exact ⟨rfl, rfl⟩
theorem bitI_pos (b : Bool) : decide (0 < bitI b) = b := by cases b <;> rfl
theorem change_nil (u d : Int) (w : World) : Calls Try.prog 36 #[.pointer none, .int .i64 u, .int .i64 d] w fun e w' => e = .returned (.int .i64 1) ∧ w = w' := by
  go_enter Try.func36, Try.ntmps36
  go_wp2_with fail
  go_ret
  exact ⟨rfl, rfl⟩
theorem change_range (b : Nat) (n : Int) (S : Nat → Bool) (u d : Int) (hu : u < 0 ∨ n ≤ u) (w : World) (hr : Ros w b n S) :
    Calls Try.prog 36 #[.pointer (some ⟨b, 0, none⟩), .int .i64 u, .int .i64 d] w fun e w' => e = .returned (.int .i64 3) ∧ w = w' := by
  obtain ⟨r0, r1, r2, r3⟩ := hr
  rcases Int.lt_or_le u 0 with h | h
  · go_enter Try.func36, Try.ntmps36
    go_wp2_with fail
    go_ret
    exact ⟨rfl, rfl⟩
  · have hn : n ≤ u := by omega
    clear hu
    go_enter Try.func36, Try.ntmps36
    go_wp2_with fail
    go_ret
    exact ⟨rfl, rfl⟩
def updS (S : Nat → Bool) (u : Nat) (v : Bool) : Nat → Bool := fun i => if i = u then v else S i
theorem Ros.set {w : World} {b : Nat} {n : Int} {S : Nat → Bool} (h : Ros w b n S) (u : Nat) (hu : u < 64) (v : Bool) : Ros (w.setCell ⟨b, 1 + u, none⟩ (.int .i64 (bitI v))).drew b n (updS S u v) := by
  obtain ⟨h0, h1, h2, h3⟩ := h
  refine ⟨by simpa using h0, ?_, fun i hi => ?_, fun o => by simpa using h3 o⟩
  · show (w.setCell _ _).cell? _ = _
    rw [World.cell?_setCell_other _ _ _ _ (by simp)]; exact h1
  · show (w.setCell _ _).cell? _ = _
    unfold updS
    by_cases hiu : i = u
    · subst hiu
      rw [World.cell?_setCell_same _ _ _ (h2 i hi), if_pos rfl]
    · rw [World.cell?_setCell_other _ _ _ _ (by simp), if_neg hiu]; exact h2 i hi
set_option maxHeartbeats 800000 in
theorem change_in (b : Nat) (n : Int) (S : Nat → Bool) (u : Nat) (v : Bool) (hu : (u : Int) < n) (h64 : u < 64) (w : World) (hr : Ros w b n S) (hs : S u = !v) :
    Calls Try.prog 36 #[.pointer (some ⟨b, 0, none⟩), .int .i64 u, .int .i64 (if v then 1 else -1)] w fun e w' => e = .returned (.int .i64 0) ∧ Ros w' b n (updS S u v) ∧ ∀ B, B ≤ b → Below B w w' := by
  have HR := Lib.hid hr
  obtain ⟨r0, r1, r2, r3⟩ := hr
  have c1 := r2 u h64
  have f1 := r3 (1 + u)
  clear r2 r3
  rw [hs] at c1
  cases v
  · have c2 : w.cell? ⟨b, 1 + u, none⟩ = some (.int .i64 1) := c1
    clear c1 hs
    go_enter Try.func36, Try.ntmps36
    go_wp2_with fail
    refine (in_any _ _).mono ?_
    rintro e w' ⟨rfl, rfl⟩
    go_wp2_with fail
    go_region
    go_wp2_with fail
    go_ret
    exact ⟨rfl, HR.out.set u h64 false, fun B hB => ((Below.refl _ _).setCell hB _).drew⟩
  · have c2 : w.cell? ⟨b, 1 + u, none⟩ = some (.int .i64 0) := c1
    clear c1 hs
    go_enter Try.func36, Try.ntmps36
    go_wp2_with fail
    refine (in_any _ _).mono ?_
    rintro e w' ⟨rfl, rfl⟩
    go_wp2_with fail
    go_region
    go_wp2_with fail
    go_ret
    exact ⟨rfl, HR.out.set u h64 true, fun B hB => ((Below.refl _ _).setCell hB _).drew⟩
set_option maxHeartbeats 800000 in
theorem change_same (b : Nat) (n : Int) (S : Nat → Bool) (u : Nat) (v : Bool) (hu : (u : Int) < n) (h64 : u < 64) (w : World) (hr : Ros w b n S) (hs : S u = v) :
    Calls Try.prog 36 #[.pointer (some ⟨b, 0, none⟩), .int .i64 u, .int .i64 (if v then 1 else -1)] w fun e w' => e = .returned (.int .i64 7) ∧ w = w' := by
  obtain ⟨r0, r1, r2, r3⟩ := hr
  have c1 := r2 u h64
  clear r2 r3
  rw [hs] at c1
  cases v
  · have c2 : w.cell? ⟨b, 1 + u, none⟩ = some (.int .i64 0) := c1
    clear c1 hs
    go_enter Try.func36, Try.ntmps36
    go_wp2_with fail
    refine (in_any _ _).mono ?_
    rintro e w' ⟨rfl, rfl⟩
    go_wp2_with fail
    go_ret
    exact ⟨rfl, rfl⟩
  · have c2 : w.cell? ⟨b, 1 + u, none⟩ = some (.int .i64 1) := c1
    clear c1 hs
    go_enter Try.func36, Try.ntmps36
    go_wp2_with fail
    refine (in_any _ _).mono ?_
    rintro e w' ⟨rfl, rfl⟩
    go_wp2_with fail
    go_ret
    exact ⟨rfl, rfl⟩
theorem in_nil (w : World) : Calls Try.prog 24 #[.pointer none] w fun e w' => e = .returned (.int .u64 0) ∧ w = w' := by
  go_enter Try.func24, Try.ntmps24
  go_wp2_with fail
  go_ret
  exact ⟨rfl, rfl⟩
theorem copy_nil (w : World) : Calls Try.prog 26 #[.pointer none] w fun e w' => e = .returned (.pointer none) ∧ w = w' := by
  go_enter Try.func26, Try.ntmps26
  go_wp2_with fail
  go_ret
  exact ⟨rfl, rfl⟩
theorem login_nil (u : Int) (w : World) : Calls Try.prog 29 #[.pointer none, .int .i64 u] w fun e w' => e = .returned (.int .i64 1) ∧ w = w' := by
  go_enter Try.func29, Try.ntmps29
  go_wp2_with fail
  refine (change_nil _ _ _).mono ?_
  rintro e w' ⟨rfl, rfl⟩
  go_wp2_with fail
  go_ret
  exact ⟨rfl, rfl⟩
theorem logout_nil (u : Int) (w : World) : Calls Try.prog 27 #[.pointer none, .int .i64 u] w fun e w' => e = .returned (.int .i64 1) ∧ w = w' := by
  go_enter Try.func27, Try.ntmps27
  go_wp2_with fail
  refine (change_nil _ _ _).mono ?_
  rintro e w' ⟨rfl, rfl⟩
  go_wp2_with fail
  go_ret
  exact ⟨rfl, rfl⟩
theorem login_range (b : Nat) (n : Int) (S : Nat → Bool) (u : Int) (hu : u < 0 ∨ n ≤ u) (w : World) (hr : Ros w b n S) :
    Calls Try.prog 29 #[.pointer (some ⟨b, 0, none⟩), .int .i64 u] w fun e w' => e = .returned (.int .i64 3) ∧ w = w' := by
  go_enter Try.func29, Try.ntmps29
  go_wp2_with fail
  refine (change_range b n S u _ hu _ hr).mono ?_
  rintro e w' ⟨rfl, rfl⟩
  go_wp2_with fail
  go_ret
  exact ⟨rfl, rfl⟩
theorem logout_range (b : Nat) (n : Int) (S : Nat → Bool) (u : Int) (hu : u < 0 ∨ n ≤ u) (w : World) (hr : Ros w b n S) :
    Calls Try.prog 27 #[.pointer (some ⟨b, 0, none⟩), .int .i64 u] w fun e w' => e = .returned (.int .i64 3) ∧ w = w' := by
  go_enter Try.func27, Try.ntmps27
  go_wp2_with fail
  refine (change_range b n S u _ hu _ hr).mono ?_
  rintro e w' ⟨rfl, rfl⟩
  go_wp2_with fail
  go_ret
  exact ⟨rfl, rfl⟩
theorem login_in (b : Nat) (n : Int) (S : Nat → Bool) (u : Nat) (hu : (u : Int) < n) (h64 : u < 64) (w : World) (hr : Ros w b n S) (hs : S u = false) :
    Calls Try.prog 29 #[.pointer (some ⟨b, 0, none⟩), .int .i64 u] w fun e w' => e = .returned (.int .i64 0) ∧ Ros w' b n (updS S u true) ∧ ∀ B, B ≤ b → Below B w w' := by
  have hc := change_in b n S u true hu h64 w hr hs
  go_enter Try.func29, Try.ntmps29
  go_wp2_with fail
  refine hc.mono ?_
  rintro e w' ⟨rfl, h1, h2⟩
  go_wp2_with fail
  go_ret
  exact ⟨rfl, h1, h2⟩
theorem login_same (b : Nat) (n : Int) (S : Nat → Bool) (u : Nat) (hu : (u : Int) < n) (h64 : u < 64) (w : World) (hr : Ros w b n S) (hs : S u = true) :
    Calls Try.prog 29 #[.pointer (some ⟨b, 0, none⟩), .int .i64 u] w fun e w' => e = .returned (.int .i64 7) ∧ w = w' := by
  have hc := change_same b n S u true hu h64 w hr hs
  go_enter Try.func29, Try.ntmps29
  go_wp2_with fail
  refine hc.mono ?_
  rintro e w' ⟨rfl, rfl⟩
  go_wp2_with fail
  go_ret
  exact ⟨rfl, rfl⟩
theorem logout_in (b : Nat) (n : Int) (S : Nat → Bool) (u : Nat) (hu : (u : Int) < n) (h64 : u < 64) (w : World) (hr : Ros w b n S) (hs : S u = true) :
    Calls Try.prog 27 #[.pointer (some ⟨b, 0, none⟩), .int .i64 u] w fun e w' => e = .returned (.int .i64 0) ∧ Ros w' b n (updS S u false) ∧ ∀ B, B ≤ b → Below B w w' := by
  have hc := change_in b n S u false hu h64 w hr hs
  go_enter Try.func27, Try.ntmps27
  go_wp2_with fail
  refine hc.mono ?_
  rintro e w' ⟨rfl, h1, h2⟩
  go_wp2_with fail
  go_ret
  exact ⟨rfl, h1, h2⟩
theorem logout_same (b : Nat) (n : Int) (S : Nat → Bool) (u : Nat) (hu : (u : Int) < n) (h64 : u < 64) (w : World) (hr : Ros w b n S) (hs : S u = false) :
    Calls Try.prog 27 #[.pointer (some ⟨b, 0, none⟩), .int .i64 u] w fun e w' => e = .returned (.int .i64 7) ∧ w = w' := by
  have hc := change_same b n S u false hu h64 w hr hs
  go_enter Try.func27, Try.ntmps27
  go_wp2_with fail
  refine hc.mono ?_
  rintro e w' ⟨rfl, rfl⟩
  go_wp2_with fail
  go_ret
  exact ⟨rfl, rfl⟩
end Go.Proofs.Ytmnbplfgdgjpdaa
