/- Copies and comparisons of grants; the functions that a set names. -/
import Derived.Test.YtndijajaddkbhaaGraA
namespace Go.Proofs.Ytndijajaddkbhaa.Re
open Go.RowKit AM
theorem copygrants_any (a : Option Addr) (len cap : Nat) (L : List GV) (hl : len * 64 ≤ 140737488355328) (w : World) (hL : IsG w a len L) :
    Calls Try.prog 30 #[.slice a len cap] w fun e w' => (∃ v, e = .returned v ∧ OwnG w.heap.size w' v L) ∧ Below w.heap.size w w' := by
  go_enter Try.func30, Try.ntmps30
  go_wp2_with (at_builtin; refine wpList_appOf rfl (.const (.slice none 0 0)) (.tmp 3) 60 rfl Try.underlying60 _ 64 infoGrant zero8 (by decide) (by decide) cells8_len cells8_one w.heap.size _ [] rfl (OwnOf.nil _ _ _ _ _) a len cap L rfl hL (by simp only [List.length_nil, Nat.zero_add]; exact hl) (Nat.le_refl _) ?_)
  intro v' w1 ho hb
  have HO := Lib.hid ho
  have HB := Lib.hid hb
  clear ho hb
  go_wp2_with fail
  go_ret
  exact ⟨⟨_, rfl, by simpa using HO.out⟩, HB.out⟩
def onlyV (f : Nat) : Int := if f = 46 then 1 else if f = 47 then 2 else if f = 48 then 4 else if f = 49 then 8 else if f = 50 then 16 else 0
theorem retU {a b : Int} (h : a = b) : Ending.returned (.int .u8 a) = .returned (.int .u8 b) := by rw [h]
theorem only_any (f : Nat) (hf : f < 256) (w : World) : Calls Try.prog 76 #[.int .u8 (f : Int)] w fun e w' => e = .returned (.int .u8 (onlyV f)) ∧ w = w' := by
  by_cases h1 : f = 46
  · subst h1
    go_enter Try.func76, Try.ntmps76
    go_wp2_with fail
    go_ret
    exact ⟨rfl, rfl⟩
  by_cases h2 : f = 47
  · subst h2
    go_enter Try.func76, Try.ntmps76
    go_wp2_with fail
    go_ret
    exact ⟨rfl, rfl⟩
  by_cases h3 : f = 48
  · subst h3
    go_enter Try.func76, Try.ntmps76
    go_wp2_with fail
    go_ret
    exact ⟨rfl, rfl⟩
  by_cases h4 : f = 49
  · subst h4
    go_enter Try.func76, Try.ntmps76
    go_wp2_with fail
    go_ret
    exact ⟨rfl, rfl⟩
  by_cases h5 : f = 50
  · subst h5
    go_enter Try.func76, Try.ntmps76
    go_wp2_with fail
    go_ret
    exact ⟨rfl, rfl⟩
  have HO : Hid (onlyV f = 0) := by unfold Hid onlyV; rw [if_neg h1, if_neg h2, if_neg h3, if_neg h4, if_neg h5]
  have e1 : ((f : Int) == 46) = false := by simp; omega
  have e2 : ((f : Int) == 47) = false := by simp; omega
  have e3 : ((f : Int) == 48) = false := by simp; omega
  have e4 : ((f : Int) == 49) = false := by simp; omega
  have e5 : ((f : Int) == 50) = false := by simp; omega
  clear h1 h2 h3 h4 h5
  go_enter Try.func76, Try.ntmps76
  go_wp2_with fail
  go_ret
  exact ⟨retU HO.out.symm, rfl⟩
def relB (f : Nat) : Bool := decide (46 ≤ f ∧ f ≤ 50)
theorem released_any (f : Nat) (hf : f < 256) (w : World) : Calls Try.prog 81 #[.int .u8 (f : Int)] w fun e w' => e = .returned (.bool (relB f)) ∧ w = w' := by
  by_cases h1 : f < 46
  · have HR : Hid (relB f = false) := decide_eq_false (by omega)
    go_enter Try.func81, Try.ntmps81
    go_wp2_with fail
    go_ret
    exact ⟨retB HR.out.symm, rfl⟩
  · by_cases h2 : f ≤ 50
    · have HR : Hid (relB f = true) := decide_eq_true (by omega)
      go_enter Try.func81, Try.ntmps81
      go_wp2_with fail
      go_ret
      exact ⟨retB (by rw [HR.out]; simp; omega), rfl⟩
    · have HR : Hid (relB f = false) := decide_eq_false (by omega)
      go_enter Try.func81, Try.ntmps81
      go_wp2_with fail
      go_ret
      exact ⟨retB (by rw [HR.out]; simp; omega), rfl⟩
/-- Whether a set of functions has one. -/
def nmB (x : BitVec 8) (f : Nat) : Bool := relB f && x.getLsbD (f - 46)
theorem and_only : ∀ f : Nat, f < 256 → ∀ x : Nat, x < 256 → (bits .and .u8 (x : Int) (onlyV f) != 0) = (relB f && (BitVec.ofNat 8 x).getLsbD (f - 46)) := by
  have key : ∀ k : Nat, k < 5 → ∀ x : Nat, x < 256 → (bits .and .u8 (x : Int) (onlyV (46 + k)) != 0) = (BitVec.ofNat 8 x).getLsbD k := by decide +kernel
  have zero : ∀ x : Nat, x < 256 → (bits .and .u8 (x : Int) 0 != 0) = false := by decide +kernel
  intro f hf x hx
  by_cases h : 46 ≤ f ∧ f ≤ 50
  · obtain ⟨k, rfl⟩ : ∃ k, f = 46 + k := ⟨f - 46, by omega⟩
    rw [key k (by omega) x hx]
    unfold relB
    rw [decide_eq_true h, Bool.true_and, show 46 + k - 46 = k by omega]
  · have h0 : onlyV f = 0 := by unfold onlyV; rw [if_neg (by omega), if_neg (by omega), if_neg (by omega), if_neg (by omega), if_neg (by omega)]
    rw [h0, zero x hx]
    unfold relB
    rw [decide_eq_false h]; rfl
theorem shr_fns : ∀ k : Nat, k < 5 → ∀ x : Nat, x < 256 → (((x : Int) / 2 ^ k).tmod 2 == 1) = (BitVec.ofNat 8 x).getLsbD k := by decide +kernel
theorem names_any (x : BitVec 8) (f : Nat) (hf : f < 256) (w : World) : Calls Try.prog 79 #[.int .u8 (x.toNat : Int), .int .u8 (f : Int)] w fun e w' => e = .returned (.bool (nmB x f)) ∧ w = w' := by
  have HN := Lib.hid (and_only f hf x.toNat x.isLt)
  go_enter Try.func79, Try.ntmps79
  go_wp2_with fail
  refine (only_any f hf _).mono ?_
  rintro e w' ⟨rfl, rfl⟩
  go_wp2_with fail
  go_ret
  exact ⟨retB (by rw [HN.out]; unfold nmB; rw [BitVec.ofNat_toNat, BitVec.setWidth_eq]), rfl⟩
theorem snames_any (x : BitVec 8) (f : Nat) (hf : f < 256) (w : World) : Calls Try.prog 82 #[.int .u8 (x.toNat : Int), .int .u8 (f : Int)] w fun e w' => e = .returned (.bool (nmB x f)) ∧ w = w' := by
  by_cases h : 46 ≤ f ∧ f ≤ 50
  · have HR : Hid (relB f = true) := decide_eq_true h
    go_enter Try.func82, Try.ntmps82
    go_wp2_with fail
    refine (released_any f hf _).mono ?_
    rintro e w' ⟨rfl, rfl⟩
    rw [HR.out]
    obtain ⟨k, rfl⟩ : ∃ k, f = 46 + k := ⟨f - 46, by omega⟩
    have hk : k < 5 := by omega
    have HS := Lib.hid (shr_fns k hk x.toNat x.isLt)
    go_wp2_with fail
    go_ret
    refine ⟨retB ?_, rfl⟩
    rw [HS.out]
    unfold nmB
    rw [HR.out, BitVec.ofNat_toNat, BitVec.setWidth_eq, show 46 + k - 46 = k by omega]; rfl
  · have HR : Hid (relB f = false) := decide_eq_false h
    go_enter Try.func82, Try.ntmps82
    go_wp2_with fail
    refine (released_any f hf _).mono ?_
    rintro e w' ⟨rfl, rfl⟩
    rw [HR.out]
    go_wp2_with fail
    go_ret
    exact ⟨retB (by unfold nmB; rw [HR.out]; rfl), rfl⟩
end Go.Proofs.Ytndijajaddkbhaa.Re
