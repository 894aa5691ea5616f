/- One contract for each change of a roster: what it returns, what the roster is then, and that nothing else is changed. -/
import Derived.Test.YtmnbplfgdgjpdaaRosR
namespace Go.Proofs.Ytmnbplfgdgjpdaa
open Go.RowKit
/-- Block b alone was written. -/
def Apart (b : Nat) (w w' : World) : Prop := (∀ B, B ≤ b → Below B w w') ∧ w'.heap.size = w.heap.size ∧ ∀ y : Addr, y.block ≠ b → w'.cell? y = w.cell? y ∧ w'.frozen? y = w.frozen? y
theorem Apart.refl (b : Nat) (w : World) : Apart b w w := ⟨fun _ _ => Below.refl _ _, rfl, fun _ _ => ⟨rfl, rfl⟩⟩
theorem Apart.set (w : World) (b o : Nat) (v : Value) : Apart b w (w.setCell ⟨b, o, none⟩ v) :=
  ⟨fun B hB => (Below.refl _ _).setCell hB _, by simp, fun y hy => ⟨World.cell?_setCell_other _ _ _ _ (by intro e; apply hy; rw [← e]), by simp⟩⟩
theorem Apart.setd (w : World) (b o : Nat) (v : Value) : Apart b w (w.setCell ⟨b, o, none⟩ v).drew := by
  obtain ⟨h1, h2, h3⟩ := Apart.set w b o v
  exact ⟨fun B hB => (h1 B hB).drew, by simp, fun y hy => h3 y hy⟩
theorem Ros.apart {w w' : World} {b c : Nat} {n : Int} {S : Nat → Bool} (h : Ros w c n S) (ha : Apart b w w') (hne : c ≠ b) : Ros w' c n S := by
  obtain ⟨h0, h1, h2, h3⟩ := h
  obtain ⟨_, hz, hc⟩ := ha
  exact ⟨by omega, by rw [(hc ⟨c, 0, none⟩ hne).1]; exact h1, fun i hi => by rw [(hc ⟨c, 1 + i, none⟩ hne).1]; exact h2 i hi, fun o => by rw [(hc ⟨c, o, none⟩ hne).2]; exact h3 o⟩
theorem RefR.apart {w w' : World} {b p g n : Nat} {S : Nat → Bool} (h : RefR w p g n S) (ha : Apart b w w') (hp : p ≠ b) (hg : g ≠ b) : RefR w' p g n S := by
  obtain ⟨h0, h0', h1, h2, h3⟩ := h
  obtain ⟨_, hz, hc⟩ := ha
  exact ⟨by omega, by omega, by rw [(hc ⟨p, 0, none⟩ hp).1]; exact h1, fun i hi => by rw [(hc ⟨g, i, none⟩ hg).1]; exact h2 i hi, fun o => by rw [(hc ⟨g, o, none⟩ hg).2]; exact h3 o⟩
def chE (n : Nat) (S : Nat → Bool) (u : Int) (v : Bool) : Int := if 0 ≤ u ∧ u < n then (if S u.toNat = v then 7 else 0) else 3
def chS (n : Nat) (S : Nat → Bool) (u : Int) (v : Bool) : Nat → Bool := if 0 ≤ u ∧ u < n then (if S u.toNat = v then S else updS S u.toNat v) else S
theorem chS_hi {n : Nat} {S : Nat → Bool} (u : Int) (v : Bool) (h : ∀ i, n ≤ i → S i = false) : ∀ i, n ≤ i → chS n S u v i = false := by
  intro i hi
  unfold chS
  split
  · split
    · exact h i hi
    · unfold updS; rw [if_neg (by omega)]; exact h i hi
  · exact h i hi
theorem retE {k : IntKind} {a b : Int} (h : a = b) : Ending.returned (.int k a) = .returned (.int k b) := by rw [h]
set_option maxHeartbeats 800000 in
theorem change_in2 (b : Nat) (n : Int) (S : Nat → Bool) (u : Nat) (v : Bool) (hu : (u : Int) < n) (h64 : u < 64) (w : World) (hr : Ros w b n S) (hs : S u = !v) :
    Calls Try.prog 36 #[.pointer (some ⟨b, 0, none⟩), .int .i64 u, .int .i64 (if v then 1 else -1)] w fun e w' => e = .returned (.int .i64 0) ∧ Ros w' b n (updS S u v) ∧ Apart b w w' := by
  have HR := Lib.hid hr
  obtain ⟨r0, r1, r2, r3⟩ := hr
  have c1 := r2 u h64
  have f1 := r3 (1 + u)
  clear r2 r3
  rw [hs] at c1
  cases v
  · have c2 : w.cell? ⟨b, 1 + u, none⟩ = some (.int .i64 1) := c1
    clear c1 hs
    go_enter Try.func36, Try.ntmps36
    go_wp2_with fail
    refine (in_any _ _).mono ?_
    rintro e w' ⟨rfl, rfl⟩
    go_wp2_with fail
    go_region
    go_wp2_with fail
    go_ret
    exact ⟨rfl, HR.out.set u h64 false, Apart.setd _ _ _ _⟩
  · have c2 : w.cell? ⟨b, 1 + u, none⟩ = some (.int .i64 0) := c1
    clear c1 hs
    go_enter Try.func36, Try.ntmps36
    go_wp2_with fail
    refine (in_any _ _).mono ?_
    rintro e w' ⟨rfl, rfl⟩
    go_wp2_with fail
    go_region
    go_wp2_with fail
    go_ret
    exact ⟨rfl, HR.out.set u h64 true, Apart.setd _ _ _ _⟩
set_option maxHeartbeats 800000 in
theorem turn_in2 (p g n : Nat) (S : Nat → Bool) (u : Nat) (v : Bool) (hpg : p ≠ g) (hu : u < n) (w : World) (hr : RefR w p g n S) (hs : S u = !v) :
    Calls Try.prog 37 #[.pointer (some ⟨p, 0, none⟩), .int .i64 (u : Int), .bool v] w fun e w' => e = .returned (.int .i64 0) ∧ RefR w' p g n (updS S u v) ∧ Apart g w w' := by
  have HR := Lib.hid hr
  obtain ⟨r0, r0', r1, r2, r3⟩ := hr
  have c1 := r2 u hu
  have f1 := r3 u
  clear r2 r3
  rw [hs] at c1
  cases v
  · have c2 : w.cell? ⟨g, u, none⟩ = some (.bool true) := c1
    clear c1
    go_enter Try.func37, Try.ntmps37
    go_wp2_with fail
    go_ret
    exact ⟨rfl, HR.out.set hpg u hu false, Apart.set _ _ _ _⟩
  · have c2 : w.cell? ⟨g, u, none⟩ = some (.bool false) := c1
    clear c1
    go_enter Try.func37, Try.ntmps37
    go_wp2_with fail
    go_ret
    exact ⟨rfl, HR.out.set hpg u hu true, Apart.set _ _ _ _⟩
theorem change_u (b n : Nat) (S : Nat → Bool) (u : Int) (v : Bool) (h64 : n ≤ 64) (w : World) (hr : Ros w b n S) :
    Calls Try.prog 36 #[.pointer (some ⟨b, 0, none⟩), .int .i64 u, .int .i64 (if v then 1 else -1)] w fun e w' => e = .returned (.int .i64 (chE n S u v)) ∧ Ros w' b n (chS n S u v) ∧ Apart b w w' := by
  by_cases h : 0 ≤ u ∧ u < n
  · obtain ⟨k, rfl⟩ : ∃ k : Nat, u = k := ⟨u.toNat, by omega⟩
    by_cases hs : S k = v
    · refine (change_same b n S k v h.2 (by omega) w hr hs).mono ?_
      rintro e w' ⟨rfl, rfl⟩
      exact ⟨retE (by unfold chE; rw [if_pos h, Int.toNat_natCast, if_pos hs]), by unfold chS; rw [if_pos h, Int.toNat_natCast, if_pos hs]; exact hr, Apart.refl _ _⟩
    · refine (change_in2 b n S k v h.2 (by omega) w hr (by cases v <;> simp_all)).mono ?_
      rintro e w' ⟨rfl, h1, h2⟩
      exact ⟨retE (by unfold chE; rw [if_pos h, Int.toNat_natCast, if_neg hs]), by unfold chS; rw [if_pos h, Int.toNat_natCast, if_neg hs]; exact h1, h2⟩
  · refine (change_range b n S u _ (by omega) w hr).mono ?_
    rintro e w' ⟨rfl, rfl⟩
    exact ⟨retE (by unfold chE; rw [if_neg h]), by unfold chS; rw [if_neg h]; exact hr, Apart.refl _ _⟩
theorem turn_u (p g n : Nat) (hpg : p ≠ g) (S : Nat → Bool) (u : Int) (v : Bool) (w : World) (hr : RefR w p g n S) :
    Calls Try.prog 37 #[.pointer (some ⟨p, 0, none⟩), .int .i64 u, .bool v] w fun e w' => e = .returned (.int .i64 (chE n S u v)) ∧ RefR w' p g n (chS n S u v) ∧ Apart g w w' := by
  by_cases h : 0 ≤ u ∧ u < n
  · obtain ⟨k, rfl⟩ : ∃ k : Nat, u = k := ⟨u.toNat, by omega⟩
    by_cases hs : S k = v
    · refine (turn_same p g n S k v (by omega) w hr hs).mono ?_
      rintro e w' ⟨rfl, rfl⟩
      exact ⟨retE (by unfold chE; rw [if_pos h, Int.toNat_natCast, if_pos hs]), by unfold chS; rw [if_pos h, Int.toNat_natCast, if_pos hs]; exact hr, Apart.refl _ _⟩
    · refine (turn_in2 p g n S k v hpg (by omega) w hr (by cases v <;> simp_all)).mono ?_
      rintro e w' ⟨rfl, h1, h2⟩
      exact ⟨retE (by unfold chE; rw [if_pos h, Int.toNat_natCast, if_neg hs]), by unfold chS; rw [if_pos h, Int.toNat_natCast, if_neg hs]; exact h1, h2⟩
  · refine (turn_range p g n S u _ (by omega) w hr).mono ?_
    rintro e w' ⟨rfl, rfl⟩
    exact ⟨retE (by unfold chE; rw [if_neg h]), by unfold chS; rw [if_neg h]; exact hr, Apart.refl _ _⟩
theorem login_u (b n : Nat) (S : Nat → Bool) (u : Int) (h64 : n ≤ 64) (w : World) (hr : Ros w b n S) :
    Calls Try.prog 29 #[.pointer (some ⟨b, 0, none⟩), .int .i64 u] w fun e w' => e = .returned (.int .i64 (chE n S u true)) ∧ Ros w' b n (chS n S u true) ∧ Apart b w w' := by
  have hc := change_u b n S u true h64 w hr
  go_enter Try.func29, Try.ntmps29
  go_wp2_with fail
  refine hc.mono ?_
  rintro e w' ⟨rfl, h1, h2⟩
  go_wp2_with fail
  go_ret
  exact ⟨rfl, h1, h2⟩
theorem flogin_u (p g n : Nat) (hpg : p ≠ g) (S : Nat → Bool) (u : Int) (w : World) (hr : RefR w p g n S) :
    Calls Try.prog 30 #[.pointer (some ⟨p, 0, none⟩), .int .i64 u] w fun e w' => e = .returned (.int .i64 (chE n S u true)) ∧ RefR w' p g n (chS n S u true) ∧ Apart g w w' := by
  have hc := turn_u p g n hpg S u true w hr
  go_enter Try.func30, Try.ntmps30
  go_wp2_with fail
  refine hc.mono ?_
  rintro e w' ⟨rfl, h1, h2⟩
  go_wp2_with fail
  go_ret
  exact ⟨rfl, h1, h2⟩
theorem logout_u (b n : Nat) (S : Nat → Bool) (u : Int) (h64 : n ≤ 64) (w : World) (hr : Ros w b n S) :
    Calls Try.prog 27 #[.pointer (some ⟨b, 0, none⟩), .int .i64 u] w fun e w' => e = .returned (.int .i64 (chE n S u false)) ∧ Ros w' b n (chS n S u false) ∧ Apart b w w' := by
  have hc := change_u b n S u false h64 w hr
  go_enter Try.func27, Try.ntmps27
  go_wp2_with fail
  refine hc.mono ?_
  rintro e w' ⟨rfl, h1, h2⟩
  go_wp2_with fail
  go_ret
  exact ⟨rfl, h1, h2⟩
theorem flogout_u (p g n : Nat) (hpg : p ≠ g) (S : Nat → Bool) (u : Int) (w : World) (hr : RefR w p g n S) :
    Calls Try.prog 28 #[.pointer (some ⟨p, 0, none⟩), .int .i64 u] w fun e w' => e = .returned (.int .i64 (chE n S u false)) ∧ RefR w' p g n (chS n S u false) ∧ Apart g w w' := by
  have hc := turn_u p g n hpg S u false w hr
  go_enter Try.func28, Try.ntmps28
  go_wp2_with fail
  refine hc.mono ?_
  rintro e w' ⟨rfl, h1, h2⟩
  go_wp2_with fail
  go_ret
  exact ⟨rfl, h1, h2⟩
end Go.Proofs.Ytmnbplfgdgjpdaa
