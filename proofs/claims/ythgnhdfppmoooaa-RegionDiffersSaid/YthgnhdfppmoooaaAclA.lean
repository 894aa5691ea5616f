/- Rules in memory; contracts of the specification's small functions. -/
import Derived.Test.YthgnhdfppmoooaaMgrp
import Derived.Test.YthgnhdfppmoooaaMrect
import Derived.Test.YthgnhdfppmoooaaMseq
namespace Go.Proofs.Ythgnhdfppmoooaa.Re
open Go.RowKit AM
/-- A rule: its range, and three sets. -/
structure RV where
  c1 : Int
  r1 : Int
  c2 : Int
  r2 : Int
  rd : W64
  wr : W64
  ow : W64
def cells7 (r : RV) : List Value := [.int .i64 r.c1, .int .i64 r.r1, .int .i64 r.c2, .int .i64 r.r2, .int .u64 (r.rd.toNat : Int), .int .u64 (r.wr.toNat : Int), .int .u64 (r.ow.toNat : Int)]
theorem cells7_len (r : RV) : (cells7 r).length = 7 := rfl
theorem cells7_one (r : RV) : ∀ u ∈ cells7 r, u.oneCell' = true := by
  intro u hu; simp [cells7] at hu; rcases hu with rfl | rfl | rfl | rfl | rfl | rfl | rfl <;> rfl
/-- One rule at an address. -/
def Seven (w : World) (b off : Nat) (r : RV) : Prop :=
  w.cell? ⟨b, off, none⟩ = some (.int .i64 r.c1) ∧ w.cell? ⟨b, off + 1, none⟩ = some (.int .i64 r.r1) ∧ w.cell? ⟨b, off + 2, none⟩ = some (.int .i64 r.c2) ∧ w.cell? ⟨b, off + 3, none⟩ = some (.int .i64 r.r2) ∧
  w.cell? ⟨b, off + 4, none⟩ = some (.int .u64 (r.rd.toNat : Int)) ∧ w.cell? ⟨b, off + 5, none⟩ = some (.int .u64 (r.wr.toNat : Int)) ∧ w.cell? ⟨b, off + 6, none⟩ = some (.int .u64 (r.ow.toNat : Int))
theorem RowOf.seven {w : World} {b off : Nat} {L : List RV} (h : RowOf cells7 7 w b off L) (k : Nat) (hk : k < L.length) : Seven w b (off + k * 7) L[k] :=
  ⟨h.2 k hk 0 _ rfl, h.2 k hk 1 _ rfl, h.2 k hk 2 _ rfl, h.2 k hk 3 _ rfl, h.2 k hk 4 _ rfl, h.2 k hk 5 _ rfl, h.2 k hk 6 _ rfl⟩
abbrev IsL (w : World) (a : Option Addr) (n : Nat) (L : List RV) : Prop := IsOf cells7 7 w a n L
theorem infoRule : (Try.prog.info? 44).map (fun i => (i.zero, i.size, i.bytes)) = some (some (.agg #[.int .i64 0, .int .i64 0, .int .i64 0, .int .i64 0, .int .u64 0, .int .u64 0, .int .u64 0]), 7, 56) := by kernel_rfl
theorem srange_any (a b c d : Int) (w : World) : Calls Try.prog 19 #[.agg #[.int .i64 a, .int .i64 b, .int .i64 c, .int .i64 d]] w fun e w' => e = .returned (.bool (ckB a b c d)) ∧ Below w.heap.size w w' := by
  have HB := Lib.hid (below_alloc w (.cells #[.int .i64 a, .int .i64 b, .int .i64 c, .int .i64 d] 23))
  have key : ckB a b c d = decide (1 ≤ a ∧ a ≤ c ∧ c ≤ 1024 ∧ 1 ≤ b ∧ b ≤ d ∧ d ≤ 1024) := by
    rw [Bool.eq_iff_iff, ckB_iff, decide_eq_true_eq]; omega
  have HK := Lib.hid key
  clear key
  generalize ckB a b c d = z at *
  go_enter Try.func19, Try.ntmps19
  go_wp2_with fail
  all_goals
    go_ret
    refine ⟨retB ?_, HB.out⟩
    rw [HK.out]
    first
      | rfl
      | (rw [Bool.eq_iff_iff]; simp; omega)
      | (symm; apply decide_eq_false; omega)
theorem shas19_any (a b c d p q : Int) (w : World) :
    Calls Try.prog 44 #[.agg #[.int .i64 a, .int .i64 b, .int .i64 c, .int .i64 d], .agg #[.int .i64 p, .int .i64 q]] w fun e w' => e = .returned (.bool (rhB a b c d p q)) ∧ Below w.heap.size w w' := by
  have hbel : Below w.heap.size w ((w.alloc (.cells #[.int .i64 a, .int .i64 b, .int .i64 c, .int .i64 d] 23)).alloc (.cells #[.int .i64 p, .int .i64 q] 52)) := ((Below.refl _ _).alloc (Nat.le_refl _) _).alloc (by simp) _
  have HB := Lib.hid hbel
  clear hbel
  have key : rhB a b c d p q = decide (a ≤ p ∧ p ≤ c ∧ b ≤ q ∧ q ≤ d) := rfl
  have HK := Lib.hid key
  clear key
  generalize rhB a b c d p q = z at *
  go_enter Try.func44, Try.ntmps44
  go_wp2_with fail
  all_goals
    go_ret
    refine ⟨retB ?_, HB.out⟩
    rw [HK.out]
    first
      | rfl
      | (rw [Bool.eq_iff_iff]; simp; omega)
      | (symm; apply decide_eq_false; omega)
theorem ssheet_any (w : World) : Calls Try.prog 33 #[] w fun e w' => e = .returned (.agg #[.int .i64 1, .int .i64 1, .int .i64 1024, .int .i64 1024]) ∧ Below w.heap.size w w' := by
  go_enter Try.func33, Try.ntmps33
  go_wp2_with fail
  exact bodyPost_ret (v := .agg #[_, _, _, _]) (by simp [results, Try.results33, go_sem]) rfl ⟨rfl, ((Below.refl _ _).alloc (Nat.le_refl _) _)⟩
def winB (x : W64) (n : Nat) : Bool := decide (x &&& ~~~(allW n) = 0#64)
theorem winB_eq (x : W64) (n : Nat) : (bits .andNot .u64 (x.toNat : Int) ((allW n).toNat : Int) == 0) = winB x n := by
  rw [bits_andNot, Bool.eq_iff_iff, beq_iff_eq]
  unfold winB
  rw [decide_eq_true_eq]
  constructor
  · intro h; apply BitVec.eq_of_toNat_eq; simpa using h
  · intro h; rw [h]; rfl
theorem swithin_any (x : W64) (n : Nat) (hn : n ≤ 64) (w : World) : Calls Try.prog 34 #[.int .u64 (x.toNat : Int), .int .i64 (n : Int)] w fun e w' => e = .returned (.bool (winB x n)) ∧ w = w' := by
  have HW := Lib.hid (winB_eq x n)
  have HA := sall_in n hn w
  generalize allW n = A at *
  generalize winB x n = z at *
  go_enter Try.func34, Try.ntmps34
  go_wp2_with fail
  refine HA.mono ?_
  rintro e w' ⟨rfl, rfl⟩
  go_wp2_with fail
  go_ret
  exact ⟨retB HW.out, rfl⟩
theorem or_win (x y z : W64) (n : Nat) : (bits .andNot .u64 (((x ||| y) ||| z).toNat : Int) ((allW n).toNat : Int) == 0) = (winB x n && (winB y n && winB z n)) := by
  rw [winB_eq]
  unfold winB
  generalize allW n = A
  have key : ∀ t : W64, t &&& ~~~A = 0#64 ↔ ∀ i, i < 64 → t.getLsbD i = true → A.getLsbD i = true := by
    intro t
    constructor
    · intro h i hi ht
      have h2 := congrArg (·.getLsbD i) h
      simp [hi, ht] at h2
      exact h2
    · intro h
      apply BitVec.eq_of_getLsbD_eq
      intro i hi
      have := h i hi
      cases ht : t.getLsbD i <;> simp_all
  rw [Bool.eq_iff_iff]
  simp only [Bool.and_eq_true, decide_eq_true_eq, key, BitVec.getLsbD_or, Bool.or_eq_true]
  constructor
  · intro h; exact ⟨fun i hi ht => h i hi (.inl (.inl ht)), fun i hi ht => h i hi (.inl (.inr ht)), fun i hi ht => h i hi (.inr ht)⟩
  · rintro ⟨h1, h2, h3⟩ i hi ((h | h) | h)
    · exact h1 i hi h
    · exact h2 i hi h
    · exact h3 i hi h
end Go.Proofs.Ythgnhdfppmoooaa.Re
