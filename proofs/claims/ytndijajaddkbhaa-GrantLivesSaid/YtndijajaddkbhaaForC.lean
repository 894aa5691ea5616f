/- Which grants release, bit by bit; lists of numbers compared. -/
import Derived.Test.YtndijajaddkbhaaForB
namespace Go.Proofs.Ytndijajaddkbhaa.Re
open Go Go.RowKit AM
def PG (m : Nat) (r : R4) (L : List RV) (g : GV) : Bool := kindB r (46 + m) g && lvB g L
theorem forE_ok {m : Nat} (hm : m < 5) {r : R4} {L : List RV} {G : List GV} (h : gcE r L = 0) (hg : (gck 64 G).2 = 0) : forE (46 + m) r L G = 0 := by
  have h0 : ¬ onlyV (46 + m) = 0 := by
    unfold onlyV
    split; · decide
    split; · decide
    split; · decide
    split; · decide
    split; · decide
    omega
  unfold forE
  rw [if_neg h0, if_pos h, hg]
theorem PG_eq {m : Nat} (hm : m < 5) {r : R4} {L : List RV} {g : GV} (hL : (rck 64 L).2 = 0) (hg : okG 64 g = true) :
    PG m r L g = (decide (g.c1 = r.c1 ∧ g.r1 = r.r1 ∧ g.c2 = r.c2 ∧ g.r2 = r.r2) && (!g.rev && (g.fns.getLsbD m && (ovr RV.ow r L).getLsbD g.by_.toNat))) := by
  unfold PG kindB nmB relB
  rw [(lv_good hg hL).2, decide_eq_true (show 46 ≤ 46 + m ∧ 46 + m ≤ 50 by omega), Bool.true_and, show 46 + m - 46 = m by omega]
  by_cases h : g.c1 = r.c1 ∧ g.r1 = r.r1 ∧ g.c2 = r.c2 ∧ g.r2 = r.r2
  · have hr : gr4 g = r := by
      obtain ⟨h1, h2, h3, h4⟩ := h
      cases r
      unfold gr4
      simp only at h1 h2 h3 h4
      rw [h1, h2, h3, h4]
    rw [decide_eq_true h, hr]
    cases g.rev <;> cases g.fns.getLsbD m <;> cases (ovr RV.ow r L).getLsbD g.by_.toNat <;> rfl
  · rw [decide_eq_false h]; rfl
theorem toW_bit (l : List (Nat × GV)) (b : Nat) : (toW l).getLsbD b = l.any fun x => x.2.tos.getLsbD b := by
  unfold toW
  have key : ∀ (l : List (Nat × GV)) (a : W64), (l.foldl (fun a x => a ||| x.2.tos) a).getLsbD b = (a.getLsbD b || l.any fun x => x.2.tos.getLsbD b) := by
    intro l
    induction l with
    | nil => intro a; simp
    | cons x l ih => intro a; rw [List.foldl_cons, ih, BitVec.getLsbD_or, List.any_cons, Bool.or_assoc]
  rw [key]; simp
theorem tmod_bitn {n : Nat} (x : BitVec n) (k : Nat) : ((x.toNat : Int) / 2 ^ k).tmod 2 = if x.getLsbD k then 1 else 0 := by
  have h1 : x.getLsbD k = decide (x.toNat / 2 ^ k % 2 = 1) := by
    rw [← BitVec.testBit_toNat, Nat.testBit_eq_decide_div_mod_eq]
  have h2 : ((x.toNat : Int) / 2 ^ k) = ((x.toNat / 2 ^ k : Nat) : Int) := by simp
  rw [h1, h2]
  generalize x.toNat / 2 ^ k = m
  rw [Int.tmod_eq_emod_of_nonneg (by omega)]
  by_cases h : m % 2 = 1
  · rw [decide_eq_true h, if_pos rfl]; omega
  · rw [decide_eq_false h, if_neg (by decide)]; omega
theorem byL_len (l : List (Nat × GV)) : (byL l).length = l.length := by unfold byL; simp
/-- A list of a call's own. -/
def ListOf {α : Type} (c : α → List Value) (n : Nat) (L : List α) : Fact := fun v w => ∃ a cap, v = .slice a L.length cap ∧ IsOf c n w a L.length L
theorem listOf_stable {α : Type} (c : α → List Value) (n : Nat) (L : List α) : Stable (ListOf c n L) := fun _ _ _ hB ⟨a, cap, h1, h2⟩ => ⟨a, cap, h1, h2.later hB⟩
def ForF (tw : W64) (l : List Int) : Fact := fun v w => ∃ a cap, v = .tuple #[.int .u64 (tw.toNat : Int), .slice a l.length cap, .int .i64 0] ∧ IsN w a l.length l
theorem forF_stable (tw : W64) (l : List Int) : Stable (ForF tw l) := fun _ _ _ hB ⟨a, cap, h1, h2⟩ => ⟨a, cap, h1, h2.later hB⟩
set_option maxHeartbeats 1600000 in
theorem eqn_any (a a' : Option Addr) (n cap cap' : Nat) (l : List Int) (hl : n ≤ 1000000) (w : World) (h1 : IsN w a n l) (h2 : IsN w a' n l) :
    Calls Try.prog 32 #[.slice a n cap, .slice a' n cap'] w fun e w' => e = .returned (.bool true) ∧ Below w.heap.size w w' := by
  have H1 := Lib.hid h1
  have H2 := Lib.hid h2
  clear h1 h2
  go_enter Try.func32, Try.ntmps32
  go_wp2_with fail
  go_loopw [5] (fun i wr => ∃ k : Nat, k ≤ n ∧ i = .int .i64 k ∧ Below w.heap.size w wr) (fun i _ => n - (intOf i).toNat)
  case atStart => exact ⟨0, Nat.zero_le _, rfl, Below.refl _ _⟩
  case round =>
    obtain ⟨k, hk, rfl, hB⟩ := hrel
    have HB := Lib.hid hB
    clear hB
    by_cases hlt : k < n
    · obtain ⟨b, off, rfl, hr⟩ := (H1.out.later HB.out).2 (by omega)
      obtain ⟨b', off', rfl, hr'⟩ := (H2.out.later HB.out).2 (by omega)
      have hkl : k < l.length := by rw [H1.out.1]; exact hlt
      have c1 := RowOf.one_ hr k hkl
      have d1 := RowOf.one_ hr' k hkl
      clear hr hr'
      generalize l[k] = r at *
      go_wp2_with fail
      go_quiet (fail)
      go_wp2_with fail
      go_roundw
      case rel => exact ⟨k + 1, by omega, by go_num, ⟨HB.out.os, HB.out.tape, HB.out.output, HB.out.size, HB.out.block⟩⟩
      case measure => simp [intOf]; omega
    · go_wp2_with fail
      go_ret
      exact ⟨rfl, HB.out⟩
end Go.Proofs.Ytndijajaddkbhaa.Re
