/- AddrPlaces: Index and At are inverse to each other, and columns grow with their letters. -/
import Derived.Test.YtgedckloooilfaaDoorAddrC
import Derived.Deep.RegionHeld3
import Derived.Deep.RegionWith
namespace Go.Proofs.YtgedckloooilfaaDoor
open Go.RowKit AM
/-- Two addresses lie in blocks p and q. -/
def Ref2 (w W : World) (p q : Nat) (a b c d : Int) : Prop :=
  p < W.heap.size ∧ q < W.heap.size ∧ Below w.heap.size w W ∧ W.cell? ⟨p, 0, none⟩ = some (.int .i64 a) ∧ W.cell? ⟨p, 1, none⟩ = some (.int .i64 b) ∧
    W.cell? ⟨q, 0, none⟩ = some (.int .i64 c) ∧ W.cell? ⟨q, 1, none⟩ = some (.int .i64 d)
theorem Ref2.later {w W W' : World} {p q : Nat} {a b c d : Int} (h : Ref2 w W p q a b c d) (hs : w.heap.size ≤ W.heap.size) (hB : Below W.heap.size W W') : Ref2 w W' p q a b c d := by
  obtain ⟨h0, h1, h2, h3, h4, h5, h6⟩ := h
  obtain ⟨hc, _⟩ := bcell hB
  have hz := hB.size
  refine ⟨by omega, by omega, h2.trans (hB.mono (by omega)), ?_, ?_, ?_, ?_⟩
  · rw [hc _ _ h0]; exact h3
  · rw [hc _ _ h0]; exact h4
  · rw [hc _ _ h1]; exact h5
  · rw [hc _ _ h1]; exact h6
/-! Letters grow with the column -/
theorem u8_lt {x y : Int} (h0 : 0 ≤ x) (h1 : x < 256) (h2 : 0 ≤ y) (h3 : y < 256) : decide (UInt8.ofNat x.toNat < UInt8.ofNat y.toNat) = decide (x < y) := by
  rw [decide_eq_decide, UInt8.lt_iff_toNat_lt]; simp; omega
theorem u8_eq {x y : Int} (h0 : 0 ≤ x) (h1 : x < 256) (h2 : 0 ≤ y) (h3 : y < 256) : (UInt8.ofNat x.toNat == UInt8.ofNat y.toNat) = decide (x = y) := by
  rw [Bool.eq_iff_iff, beq_iff_eq, decide_eq_true_eq, ← UInt8.toNat_inj]; simp; omega
def lsL (x y : List Int) : Bool := Op.bytesLess (x.map fun n => UInt8.ofNat n.toNat) (y.map fun n => UInt8.ofNat n.toNat)
theorem lsL_cons {a b : Int} {x y : List Int} (h0 : 0 ≤ a) (h1 : a < 256) (h2 : 0 ≤ b) (h3 : b < 256) : lsL (a :: x) (b :: y) = (decide (a < b) || (decide (a = b) && lsL x y)) := by
  unfold lsL
  rw [List.map_cons, List.map_cons, Op.bytesLess, u8_lt h0 h1 h2 h3, u8_eq h0 h1 h2 h3]
theorem lsL_nil : lsL [] [] = false := rfl
/-- How two columns' letters stand to each other. -/
def LB (sa sb : ByteArray) (c d : Int) : Prop :=
  (sa.size < sb.size ∧ c < d) ∨ (sa.size = sb.size ∧ Op.bytesLess sa.toList sb.toList = decide (c < d)) ∨ (sb.size < sa.size ∧ ¬ c < d)
theorem toList_nums (l : List Int) : (strOfNums l).toList = l.map fun n => UInt8.ofNat n.toNat := by
  rw [← strOfNums_data]; exact ByteArray.toList_eq _
theorem lex26 {q r q' r' : Int} (h0 : 0 ≤ r) (h1 : r < 26) (h2 : 0 ≤ r') (h3 : r' < 26) : (26 * q + r < 26 * q' + r') ↔ (q < q' ∨ q = q' ∧ r < r') := by
  constructor
  · intro h; rcases Int.lt_trichotomy q q' with a | a | a <;> omega
  · rintro (h | ⟨h, h'⟩) <;> omega
theorem split26 (c : Int) : ∃ q r, (c - 1) / 26 = q ∧ (c - 1) % 26 = r ∧ c = 26 * q + r + 1 ∧ 0 ≤ r ∧ r < 26 := ⟨_, _, rfl, rfl, by omega, by omega, by omega⟩
theorem lets_before {c d : Int} (h0 : 1 ≤ c) (h1 : c ≤ 1024) (h2 : 1 ≤ d) (h3 : d ≤ 1024) : LB (strOfNums (letsN c)) (strOfNums (letsN d)) c d := by
  unfold LB
  rw [strOfNums_size, strOfNums_size, toList_nums, toList_nums]
  change _ ∨ (_ ∧ lsL _ _ = _) ∨ _
  rcases Int.lt_or_le 26 c with a1 | a1
  · rcases Int.lt_or_le 702 c with a2 | a2
    · rw [letsN_3 a2]
      rcases Int.lt_or_le 26 d with b1 | b1
      · rcases Int.lt_or_le 702 d with b2 | b2
        · rw [letsN_3 b2]
          right; left; refine ⟨rfl, ?_⟩
          obtain ⟨q, r, e1, e2, e3, e4, e5⟩ := split26 c
          obtain ⟨q', r', f1, f2, f3, f4, f5⟩ := split26 d
          rw [e1, e2, f1, f2]
          obtain ⟨q2, r2, g1, g2, g3, g4, g5⟩ := split26 q
          obtain ⟨q2', r2', i1, i2, i3, i4, i5⟩ := split26 q'
          rw [g1, g2, i1, i2, show (q2 - 1) % 26 = 0 by omega, show (q2' - 1) % 26 = 0 by omega]
          rw [lsL_cons (by omega) (by omega) (by omega) (by omega), lsL_cons (by omega) (by omega) (by omega) (by omega), lsL_cons (by omega) (by omega) (by omega) (by omega), lsL_nil]
          obtain rfl : q2 = 1 := by omega
          obtain rfl : q2' = 1 := by omega
          have l1 := lex26 (q := r2) (q' := r2') e4 e5 f4 f5
          have l2 : (c < d) ↔ (26 * r2 + r < 26 * r2' + r') := by omega
          have l3 : decide (c < d) = decide (r2 < r2' ∨ r2 = r2' ∧ r < r') := decide_eq_decide.2 (l2.trans l1)
          rw [l3]
          rw [Bool.eq_iff_iff]; simp only [Bool.or_eq_true, Bool.and_eq_true, decide_eq_true_eq, Bool.false_eq_true, and_false, or_false, Int.lt_irrefl, false_or, true_and]; omega
        · rw [letsN_2 b1 b2]; right; right; exact ⟨by simp, by omega⟩
      · rw [letsN_1 b1]; right; right; exact ⟨by simp, by omega⟩
    · rw [letsN_2 a1 a2]
      rcases Int.lt_or_le 26 d with b1 | b1
      · rcases Int.lt_or_le 702 d with b2 | b2
        · rw [letsN_3 b2]; left; exact ⟨by simp, by omega⟩
        · rw [letsN_2 b1 b2]
          right; left; refine ⟨rfl, ?_⟩
          obtain ⟨q, r, e1, e2, e3, e4, e5⟩ := split26 c
          obtain ⟨q', r', f1, f2, f3, f4, f5⟩ := split26 d
          rw [e1, e2, f1, f2, show (q - 1) % 26 = q - 1 by omega, show (q' - 1) % 26 = q' - 1 by omega]
          rw [lsL_cons (by omega) (by omega) (by omega) (by omega), lsL_cons (by omega) (by omega) (by omega) (by omega), lsL_nil]
          have l1 := lex26 (q := q) (q' := q') e4 e5 f4 f5
          rw [Bool.eq_iff_iff]; simp only [Bool.or_eq_true, Bool.and_eq_true, decide_eq_true_eq, Bool.false_eq_true, and_false, or_false]; omega
      · rw [letsN_1 b1]; right; right; exact ⟨by simp, by omega⟩
  · rw [letsN_1 a1]
    rcases Int.lt_or_le 26 d with b1 | b1
    · rcases Int.lt_or_le 702 d with b2 | b2
      · rw [letsN_3 b2]; left; exact ⟨by simp, by omega⟩
      · rw [letsN_2 b1 b2]; left; exact ⟨by simp, by omega⟩
    · rw [letsN_1 b1]
      right; left; refine ⟨rfl, ?_⟩
      rw [show (c - 1) % 26 = c - 1 by omega, show (d - 1) % 26 = d - 1 by omega, lsL_cons (by omega) (by omega) (by omega) (by omega), lsL_nil]
      rw [Bool.eq_iff_iff]; simp only [Bool.or_eq_true, Bool.and_eq_true, decide_eq_true_eq, Bool.false_eq_true, and_false, or_false]; omega
theorem ret_i0 {a b : Int} (h : a = b) : Ending.returned (.tuple #[.int .i64 a, .int .i64 0]) = .returned (.tuple #[.int .i64 b, .int .i64 0]) := by rw [h]
set_option maxRecDepth 100000 in
set_option maxHeartbeats 3200000 in
theorem addrPlaces_out (i j : Int) (h : (i < 0 ∨ 1048576 ≤ i) ∨ (j < 0 ∨ 1048576 ≤ j)) (w : World) :
    Calls Tryd.prog 11 #[.int .i64 i, .int .i64 j] w fun e w' => e = .returned (.bool true) ∧ Below w.heap.size w w' := by
  rcases Int.lt_or_le i 0 with i2 | i0
  · have hi2 : i < 0 ∨ 1048576 ≤ i := Or.inl i2
    clear h
    rcases Int.lt_or_le j 0 with j2 | j0
    · have hj2 : j < 0 ∨ 1048576 ≤ j := Or.inl j2
      go_enter Tryd.func11, Tryd.ntmps11
      go_wp2_with fail
      refine (at_no i hi2 _).mono ?_
      rintro e w1 ⟨rfl, hB1⟩
      go_wp2_with fail
      refine (at_no j hj2 _).mono ?_
      rintro e w2 ⟨rfl, hB2⟩
      go_wp2_with fail
      refine (knownA_any _).mono ?_
      rintro e w9 ⟨rfl, hB9⟩
      go_wp2_with fail
      go_ret
      exact ⟨rfl, Below.next (Below.next (hB1.alloc hB1.size _) hB2 |>.alloc (by have := hB1.size; have := hB2.size; simp at this; omega) _) hB9⟩
    · rcases Int.lt_or_le j 1048576 with j1 | j1
      · go_enter Tryd.func11, Tryd.ntmps11
        go_wp2_with fail
        refine (at_no i hi2 _).mono ?_
        rintro e w1 ⟨rfl, hB1⟩
        go_wp2_with fail
        refine (at_yes j j0 j1 _).mono ?_
        rintro e w2 ⟨rfl, hB2⟩
        go_wp2_with fail
        refine (knownA_any _).mono ?_
        rintro e w9 ⟨rfl, hB9⟩
        go_wp2_with fail
        go_ret
        exact ⟨rfl, Below.next (Below.next (hB1.alloc hB1.size _) hB2 |>.alloc (by have := hB1.size; have := hB2.size; simp at this; omega) _) hB9⟩
        
      · have hj2 : j < 0 ∨ 1048576 ≤ j := Or.inr j1
        go_enter Tryd.func11, Tryd.ntmps11
        go_wp2_with fail
        refine (at_no i hi2 _).mono ?_
        rintro e w1 ⟨rfl, hB1⟩
        go_wp2_with fail
        refine (at_no j hj2 _).mono ?_
        rintro e w2 ⟨rfl, hB2⟩
        go_wp2_with fail
        refine (knownA_any _).mono ?_
        rintro e w9 ⟨rfl, hB9⟩
        go_wp2_with fail
        go_ret
        exact ⟨rfl, Below.next (Below.next (hB1.alloc hB1.size _) hB2 |>.alloc (by have := hB1.size; have := hB2.size; simp at this; omega) _) hB9⟩
  · rcases Int.lt_or_le i 1048576 with i1 | i1
    · rcases Int.lt_or_le j 0 with j2 | j0
      · have hj2 : j < 0 ∨ 1048576 ≤ j := Or.inl j2
        clear h
        go_enter Tryd.func11, Tryd.ntmps11
        go_wp2_with fail
        refine (at_yes i i0 i1 _).mono ?_
        rintro e w1 ⟨rfl, hB1⟩
        go_wp2_with fail
        refine (at_no j hj2 _).mono ?_
        rintro e w2 ⟨rfl, hB2⟩
        go_wp2_with fail
        refine (knownA_any _).mono ?_
        rintro e w9 ⟨rfl, hB9⟩
        go_wp2_with fail
        go_ret
        exact ⟨rfl, Below.next (Below.next (hB1.alloc hB1.size _) hB2 |>.alloc (by have := hB1.size; have := hB2.size; simp at this; omega) _) hB9⟩
      · have j1 : 1048576 ≤ j := by omega
        have hj2 : j < 0 ∨ 1048576 ≤ j := Or.inr j1
        clear h
        go_enter Tryd.func11, Tryd.ntmps11
        go_wp2_with fail
        refine (at_yes i i0 i1 _).mono ?_
        rintro e w1 ⟨rfl, hB1⟩
        go_wp2_with fail
        refine (at_no j hj2 _).mono ?_
        rintro e w2 ⟨rfl, hB2⟩
        go_wp2_with fail
        refine (knownA_any _).mono ?_
        rintro e w9 ⟨rfl, hB9⟩
        go_wp2_with fail
        go_ret
        exact ⟨rfl, Below.next (Below.next (hB1.alloc hB1.size _) hB2 |>.alloc (by have := hB1.size; have := hB2.size; simp at this; omega) _) hB9⟩
    · have hi2 : i < 0 ∨ 1048576 ≤ i := Or.inr i1
      clear h
      rcases Int.lt_or_le j 0 with j2 | j0
      · have hj2 : j < 0 ∨ 1048576 ≤ j := Or.inl j2
        go_enter Tryd.func11, Tryd.ntmps11
        go_wp2_with fail
        refine (at_no i hi2 _).mono ?_
        rintro e w1 ⟨rfl, hB1⟩
        go_wp2_with fail
        refine (at_no j hj2 _).mono ?_
        rintro e w2 ⟨rfl, hB2⟩
        go_wp2_with fail
        refine (knownA_any _).mono ?_
        rintro e w9 ⟨rfl, hB9⟩
        go_wp2_with fail
        go_ret
        exact ⟨rfl, Below.next (Below.next (hB1.alloc hB1.size _) hB2 |>.alloc (by have := hB1.size; have := hB2.size; simp at this; omega) _) hB9⟩
      · rcases Int.lt_or_le j 1048576 with j1 | j1
        · go_enter Tryd.func11, Tryd.ntmps11
          go_wp2_with fail
          refine (at_no i hi2 _).mono ?_
          rintro e w1 ⟨rfl, hB1⟩
          go_wp2_with fail
          refine (at_yes j j0 j1 _).mono ?_
          rintro e w2 ⟨rfl, hB2⟩
          go_wp2_with fail
          refine (knownA_any _).mono ?_
          rintro e w9 ⟨rfl, hB9⟩
          go_wp2_with fail
          go_ret
          exact ⟨rfl, Below.next (Below.next (hB1.alloc hB1.size _) hB2 |>.alloc (by have := hB1.size; have := hB2.size; simp at this; omega) _) hB9⟩
          
        · have hj2 : j < 0 ∨ 1048576 ≤ j := Or.inr j1
          go_enter Tryd.func11, Tryd.ntmps11
          go_wp2_with fail
          refine (at_no i hi2 _).mono ?_
          rintro e w1 ⟨rfl, hB1⟩
          go_wp2_with fail
          refine (at_no j hj2 _).mono ?_
          rintro e w2 ⟨rfl, hB2⟩
          go_wp2_with fail
          refine (knownA_any _).mono ?_
          rintro e w9 ⟨rfl, hB9⟩
          go_wp2_with fail
          go_ret
          exact ⟨rfl, Below.next (Below.next (hB1.alloc hB1.size _) hB2 |>.alloc (by have := hB1.size; have := hB2.size; simp at this; omega) _) hB9⟩
set_option maxRecDepth 100000 in
set_option maxHeartbeats 3200000 in
theorem addrPlaces_in (i j : Int) (i0 : 0 ≤ i) (i1 : i < 1048576) (j0 : 0 ≤ j) (j1 : j < 1048576) (w : World) :
    Calls Tryd.prog 11 #[.int .i64 i, .int .i64 j] w fun e w' => e = .returned (.bool true) ∧ Below w.heap.size w w' := by
  have HI := Lib.hid (show (i / 1024 + 1 - 1) * 1024 + (i % 1024 + 1) - 1 = i by omega)
  have HJ := Lib.hid (show (j / 1024 + 1 - 1) * 1024 + (j % 1024 + 1) - 1 = j by omega)
  have HL : Hid (lessB (i % 1024 + 1) (i / 1024 + 1) (j % 1024 + 1) (j / 1024 + 1) = decide (i < j)) := by
    unfold Hid lessB; rw [decide_eq_decide]; omega
  obtain ⟨a, ha⟩ : ∃ a, i % 1024 + 1 = a := ⟨_, rfl⟩
  obtain ⟨b, hb⟩ : ∃ b, i / 1024 + 1 = b := ⟨_, rfl⟩
  obtain ⟨c, hc⟩ : ∃ c, j % 1024 + 1 = c := ⟨_, rfl⟩
  obtain ⟨d, hd⟩ : ∃ d, j / 1024 + 1 = d := ⟨_, rfl⟩
  rw [ha, hb] at HI HL
  rw [hc, hd] at HJ HL
  have ra : 1 ≤ a ∧ a ≤ 1024 ∧ 1 ≤ b ∧ b ≤ 1024 := by omega
  have rc : 1 ≤ c ∧ c ≤ 1024 ∧ 1 ≤ d ∧ d ≤ 1024 := by omega
  have hLB := lets_before ra.1 ra.2.1 rc.1 rc.2.1
  have Ha := Lib.hid ha
  have Hb := Lib.hid hb
  have Hc := Lib.hid hc
  have Hd := Lib.hid hd
  have Ra := Lib.hid ra
  have Rc := Lib.hid rc
  have HLB := Lib.hid hLB
  clear ha hb hc hd ra rc hLB
  go_enter Tryd.func11, Tryd.ntmps11
  go_wp2_with fail
  refine (at_yes i i0 i1 _).mono ?_
  rintro e w1 ⟨rfl, hB1⟩
  rw [Ha.out, Hb.out]
  go_wp2_with fail
  refine (at_yes j j0 j1 _).mono ?_
  rintro e w2 ⟨rfl, hB2⟩
  rw [Hc.out, Hd.out]
  have hz1 := hB1.size
  have hz2 : w1.heap.size < w2.heap.size := by have := hB2.size; simp at this; omega
  have hR : Ref2 w (w2.alloc (.cells #[.int .i64 c, .int .i64 d] 39)) w1.heap.size w2.heap.size a b c d := by
    obtain ⟨hc, _⟩ := bcell hB2
    refine ⟨by simp; omega, by simp, (Below.next (hB1.alloc hz1 _) hB2).alloc (by omega) _, ?_, ?_, by simp, by simp⟩
    · rw [World.cell?_alloc_past _ _ _ hz2, hc _ _ (by simp)]; simp
    · rw [World.cell?_alloc_past _ _ _ hz2, hc _ _ (by simp)]; simp
  have HR := Lib.hid hR
  obtain ⟨_, _, _, c1, c2, c3, c4⟩ := hR
  go_wp2_with fail
  refine (index_yes a b Ra.out _).mono ?_
  rintro e w3 ⟨rfl, hB3⟩
  rw [HI.out]
  have HR3 := Lib.hid (HR.out.later (by simp; omega) hB3)
  obtain ⟨_, _, hb3, c1, c2, c3, c4⟩ := HR3.out
  have hz3 := hb3.size
  go_wp2_with fail
  refine (index_yes c d Rc.out _).mono ?_
  rintro e w4 ⟨rfl, hB4⟩
  rw [HJ.out]
  have HR4 := Lib.hid (HR3.out.later hz3 hB4)
  obtain ⟨_, _, hb4, c1, c2, c3, c4⟩ := HR4.out
  have hz4 := hb4.size
  go_wp2_with fail
  refine (alless_any a b c d _).mono ?_
  rintro e w5 ⟨rfl, hB5⟩
  rw [HL.out]
  have HR5 := Lib.hid (HR4.out.later hz4 hB5)
  obtain ⟨_, _, hb5, c1, c2, c3, c4⟩ := HR5.out
  have hz5 := hb5.size
  go_wp2_with fail
  refine (letters_yes a Ra.out.1 Ra.out.2.1 _).mono ?_
  rintro e w6 ⟨rfl, hB6⟩
  have HR6 := Lib.hid (HR5.out.later hz5 hB6)
  obtain ⟨_, _, hb6, c1, c2, c3, c4⟩ := HR6.out
  have hz6 := hb6.size
  go_wp2_with fail
  refine (letters_yes c Rc.out.1 Rc.out.2.1 _).mono ?_
  rintro e w7 ⟨rfl, hB7⟩
  have HR7 := Lib.hid (HR6.out.later hz6 hB7)
  obtain ⟨_, _, hb7, c1, c2, c3, c4⟩ := HR7.out
  clear HI HJ HL Ha Hb Hc Hd
  generalize strOfNums (letsN a) = sa at *
  generalize strOfNums (letsN c) = sb at *
  have hLB := HLB.out
  clear HLB
  rcases hLB with ⟨h1, h2⟩ | ⟨h1, h2⟩ | ⟨h1, h2⟩
  · go_wp2_with fail
    refine (knownA_any _).mono ?_
    rintro e w9 ⟨rfl, hB9⟩
    go_wp2_with fail
    go_ret
    exact ⟨rfl, Below.next hb7 hB9⟩
  · have e1 : ¬ (sa.size < sb.size) := by omega
    have e2 : ((sa.size : Int) == (sb.size : Int)) = true := by rw [h1]; simp
    rcases Int.lt_or_le a c with h3 | h3
    · have e3 : Op.bytesLess sa.toList sb.toList = true := by rw [h2]; exact decide_eq_true h3
      clear h1 h2
      go_wp2_with fail
      refine (knownA_any _).mono ?_
      rintro e w9 ⟨rfl, hB9⟩
      go_wp2_with fail
      go_ret
      exact ⟨rfl, Below.next hb7 hB9⟩
    · have e3 : Op.bytesLess sa.toList sb.toList = false := by rw [h2]; exact decide_eq_false (by omega)
      clear h1 h2
      go_wp2_with fail
      refine (knownA_any _).mono ?_
      rintro e w9 ⟨rfl, hB9⟩
      go_wp2_with fail
      go_ret
      exact ⟨retB (show (!decide (a < c)) = true by rw [decide_eq_false (by omega)]; rfl), Below.next hb7 hB9⟩
  · have e1 : ¬ (sa.size < sb.size) := by omega
    have e2 : ((sa.size : Int) == (sb.size : Int)) = false := by rw [beq_eq_false_iff_ne]; omega
    go_wp2_with fail
    refine (knownA_any _).mono ?_
    rintro e w9 ⟨rfl, hB9⟩
    go_wp2_with fail
    go_ret
    exact ⟨retB (show (!decide (a < c)) = true by rw [decide_eq_false (by omega)]; rfl), Below.next hb7 hB9⟩
theorem addrPlaces_any (i j : Int) (w : World) :
    Calls Tryd.prog 11 #[.int .i64 i, .int .i64 j] w fun e w' => e = .returned (.bool true) ∧ Below w.heap.size w w' := by
  rcases Decidable.em ((i < 0 ∨ 1048576 ≤ i) ∨ (j < 0 ∨ 1048576 ≤ j)) with h | h
  · exact addrPlaces_out i j h w
  · exact addrPlaces_in i j (by omega) (by omega) (by omega) (by omega) w
end Go.Proofs.YtgedckloooilfaaDoor
