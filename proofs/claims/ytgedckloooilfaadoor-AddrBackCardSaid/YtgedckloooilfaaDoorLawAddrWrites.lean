/- AddrWrites: Valid, Format, Letters, Index and At return what the specification returns. -/
import Derived.Test.YtgedckloooilfaaDoorAddrD
import Derived.Test.YtgedckloooilfaaDoorAddrTwo
import Derived.Deep.RegionHeld3
namespace Go.Proofs.YtgedckloooilfaaDoor
open Go.RowKit AM
/-! What both sides return, for every input -/
def lS (n : Int) : ByteArray := if 1 ≤ n ∧ n ≤ 1024 then strOfNums (letsN n) else ⟨#[]⟩
def lE (n : Int) : Int := if 1 ≤ n ∧ n ≤ 1024 then 0 else 3
def fS (c r : Int) : ByteArray := if okR c r = true then ⟨(fmtL c r).toArray⟩ else ⟨#[]⟩
def fE (c r : Int) : Int := if okR c r = true then 0 else 3
def iV (c r : Int) : Int := if okR c r = true then (r - 1) * 1024 + c - 1 else 0
def tC (i : Int) : Int := if 0 ≤ i ∧ i < 1048576 then i % 1024 + 1 else 0
def tR (i : Int) : Int := if 0 ≤ i ∧ i < 1048576 then i / 1024 + 1 else 0
def tE (i : Int) : Int := if 0 ≤ i ∧ i < 1048576 then 0 else 3
theorem letters_all (n : Int) (w : World) :
    Calls Tryd.prog 42 #[.int .i64 n] w fun e w' => e = .returned (.tuple #[.string (lS n), .int .i64 (lE n)]) ∧ Below w.heap.size w w' := by
  by_cases h : 1 ≤ n ∧ n ≤ 1024
  · rw [lS, lE, if_pos h, if_pos h]; exact letters_yes n h.1 h.2 w
  · rw [lS, lE, if_neg h, if_neg h]; exact letters_no n (by omega) w
theorem format_all (c r : Int) (w : World) (hp : Pow w) :
    Calls Tryd.prog 38 #[.agg #[.int .i64 c, .int .i64 r]] w fun e w' => e = .returned (.tuple #[.string (fS c r), .int .i64 (fE c r)]) ∧ Below w.heap.size w w' := by
  cases h : okR c r
  · rw [fS, fE, if_neg (by rw [h]; decide), if_neg (by rw [h]; decide)]; exact format_no c r h w
  · rw [fS, fE, if_pos h, if_pos h]; exact format_yes c r h w hp
theorem index_all (c r : Int) (w : World) :
    Calls Tryd.prog 44 #[.agg #[.int .i64 c, .int .i64 r]] w fun e w' => e = .returned (.tuple #[.int .i64 (iV c r), .int .i64 (fE c r)]) ∧ Below w.heap.size w w' := by
  cases h : okR c r
  · rw [iV, fE, if_neg (by rw [h]; decide), if_neg (by rw [h]; decide)]; exact index_no c r (okR_n h) w
  · rw [iV, fE, if_pos h, if_pos h]; exact index_yes c r (okR_i h) w
theorem at_all (i : Int) (w : World) :
    Calls Tryd.prog 46 #[.int .i64 i] w fun e w' => e = .returned (.tuple #[.agg #[.int .i64 (tC i), .int .i64 (tR i)], .int .i64 (tE i)]) ∧ Below w.heap.size w w' := by
  by_cases h : 0 ≤ i ∧ i < 1048576
  · rw [tC, tR, tE, if_pos h, if_pos h, if_pos h]; exact at_yes i h.1 h.2 w
  · rw [tC, tR, tE, if_neg h, if_neg h, if_neg h]; exact at_no i (by omega) w
theorem rletters_all (n : Int) (w : World) :
    Calls Tryd.prog 43 #[.int .i64 n] w fun e w' => e = .returned (.tuple #[.string (lS n), .int .i64 (lE n)]) ∧ Below w.heap.size w w' := by
  by_cases h : 1 ≤ n ∧ n ≤ 1024
  · rw [lS, lE, if_pos h, if_pos h]; exact rletters_yes n h.1 h.2 w
  · rw [lS, lE, if_neg h, if_neg h]; exact rletters_no n (by omega) w
theorem rformat_all (c r : Int) (w : World) :
    Calls Tryd.prog 39 #[.agg #[.int .i64 c, .int .i64 r]] w fun e w' => e = .returned (.tuple #[.string (fS c r), .int .i64 (fE c r)]) ∧ Below w.heap.size w w' := by
  cases h : okR c r
  · rw [fS, fE, if_neg (by rw [h]; decide), if_neg (by rw [h]; decide)]; exact rformat_no c r h w
  · rw [fS, fE, if_pos h, if_pos h]; exact rformat_yes c r h w
theorem rindex_all (c r : Int) (w : World) :
    Calls Tryd.prog 45 #[.agg #[.int .i64 c, .int .i64 r]] w fun e w' => e = .returned (.tuple #[.int .i64 (iV c r), .int .i64 (fE c r)]) ∧ Below w.heap.size w w' := by
  cases h : okR c r
  · rw [iV, fE, if_neg (by rw [h]; decide), if_neg (by rw [h]; decide)]; exact rindex_no c r (okR_n h) w
  · rw [iV, fE, if_pos h, if_pos h]; exact rindex_yes c r (okR_i h) w
theorem rat_all (i : Int) (w : World) :
    Calls Tryd.prog 47 #[.int .i64 i] w fun e w' => e = .returned (.tuple #[.agg #[.int .i64 (tC i), .int .i64 (tR i)], .int .i64 (tE i)]) ∧ Below w.heap.size w w' := by
  by_cases h : 0 ≤ i ∧ i < 1048576
  · rw [tC, tR, tE, if_pos h, if_pos h, if_pos h]; exact rat_yes i h.1 h.2 w
  · rw [tC, tR, tE, if_neg h, if_neg h, if_neg h]; exact rat_no i (by omega) w
theorem one_keep {w W w' : World} {c r : Int} (h : w.heap.size < W.heap.size ∧ Below w.heap.size w W ∧ W.cell? ⟨w.heap.size, 0, none⟩ = some (.int .i64 c) ∧ W.cell? ⟨w.heap.size, 1, none⟩ = some (.int .i64 r)) (hB : Below W.heap.size W w') :
    w.heap.size < w'.heap.size ∧ Below w.heap.size w w' ∧ w'.cell? ⟨w.heap.size, 0, none⟩ = some (.int .i64 c) ∧ w'.cell? ⟨w.heap.size, 1, none⟩ = some (.int .i64 r) := by
  obtain ⟨h0, h1, h2, h3⟩ := h
  obtain ⟨hc, _⟩ := bcell hB
  have hz := hB.size
  refine ⟨by omega, h1.trans (hB.mono (by omega)), ?_, ?_⟩
  · rw [hc _ _ (by omega)]; exact h2
  · rw [hc _ _ (by omega)]; exact h3
theorem pow_of_laid {w : World} (hl : laidMetH Tryd.prog Rows.addrWritesRow.laid w) : Pow w :=
  pow_third (x := ("math/bits.deBruijn32tab", Rows.laid_math_bits_deBruijn32tab)) (y := ("math/bits.deBruijn64tab", Rows.laid_math_bits_deBruijn64tab)) (rest := []) (MakeChecks.laidMetH_plain _ _ _ (by kernel_rfl)) hl
set_option maxRecDepth 100000 in
set_option maxHeartbeats 3200000 in
theorem addrWrites_any (c r i : Int) (w : World) (hl : laidMetH Tryd.prog Rows.addrWritesRow.laid w) :
    Calls Tryd.prog 7 #[.agg #[.int .i64 c, .int .i64 r], .int .i64 i] w fun e w' => e = .returned (.bool true) ∧ Below w.heap.size w w' := by
  have HP := Lib.hid (pow_of_laid hl)
  clear hl
  go_enter Tryd.func7, Tryd.ntmps7
  go_wp2_with fail
  refine (format_all c r _ (HP.out.later ((Below.refl _ _).alloc (Nat.le_refl _) _))).mono ?_
  rintro e w1 ⟨rfl, hB1⟩
  have hS1 : w.heap.size < w1.heap.size ∧ Below w.heap.size w w1 ∧ w1.cell? ⟨w.heap.size, 0, none⟩ = some (.int .i64 c) ∧ w1.cell? ⟨w.heap.size, 1, none⟩ = some (.int .i64 r) :=
    one_keep ⟨by simp, (Below.refl _ _).alloc (Nat.le_refl _) _, by simp, by simp⟩ hB1
  have HS1 := Lib.hid hS1
  obtain ⟨_, _, c1, c2⟩ := hS1
  go_wp2_with fail
  refine (rformat_all c r _).mono ?_
  rintro e w2 ⟨rfl, hB2⟩
  have hS2 := one_keep HS1.out hB2
  have HS2 := Lib.hid hS2
  generalize fS c r = s1 at *
  generalize hx1 : fE c r = x1 at *
  clear hx1
  go_wp2_with fail
  go_region_held3 (fun x => w.heap.size < x.heap.size ∧ Below w.heap.size w x ∧ x.cell? ⟨w.heap.size, 0, none⟩ = some (.int .i64 c) ∧ x.cell? ⟨w.heap.size, 1, none⟩ = some (.int .i64 r))
    (first
      | assumption
      | exact ⟨hS2.1, hS2.2.1.drew, hS2.2.2.1, hS2.2.2.2⟩)
    (first
      | (go_at_call 40; refine (valid_any _ _ _).mono ?_; rintro e w' ⟨rfl, hB⟩; have hS' := one_keep (by assumption) hB)
      | (go_at_call 41; refine (rvalid_any _ _ _).mono ?_; rintro e w' ⟨rfl, hB⟩; have hS' := one_keep (by assumption) hB))
  have HS3 := Lib.hid hS'
  clear hS'
  go_wp2_with fail
  refine (letters_all i _).mono ?_
  rintro e w3 ⟨rfl, hB3⟩
  have HS4 := Lib.hid (one_keep HS3.out hB3)
  go_wp2_with fail
  refine (rletters_all i _).mono ?_
  rintro e w4 ⟨rfl, hB4⟩
  have hS5 := one_keep HS4.out hB4
  have HS5 := Lib.hid hS5
  obtain ⟨_, _, c1, c2⟩ := hS5
  generalize lS i = s2 at *
  generalize lE i = x2 at *
  go_wp2_with fail
  refine (index_all c r _).mono ?_
  rintro e w5 ⟨rfl, hB5⟩
  have hS6 := one_keep HS5.out hB5
  have HS6 := Lib.hid hS6
  obtain ⟨_, _, c1, c2⟩ := hS6
  go_wp2_with fail
  refine (rindex_all c r _).mono ?_
  rintro e w6 ⟨rfl, hB6⟩
  have hS7 := one_keep HS6.out hB6
  have HS7 := Lib.hid hS7.2.1
  clear hS7
  generalize iV c r = x3 at *
  generalize fE c r = x4 at *
  go_wp2_with fail
  refine (at_all i _).mono ?_
  rintro e w7 ⟨rfl, hB7⟩
  have HB7 := Lib.hid (Below.next HS7.out hB7)
  go_wp2_with fail
  refine (rat_all i _).mono ?_
  rintro e w8 ⟨rfl, hB8⟩
  have hR := RefTwo.start (t := 39) (t' := 39) (c := tC i) (d := tR i) HB7.out hB8
  obtain ⟨_, _, hb, c1, c2, c3, c4⟩ := hR
  go_wp2_with fail
  go_ret
  exact ⟨rfl, hb⟩
end Go.Proofs.YtgedckloooilfaaDoor
