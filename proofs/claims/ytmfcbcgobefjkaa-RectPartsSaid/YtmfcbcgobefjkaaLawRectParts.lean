/- RectParts: Minus, Area and Refs return what the specification returns. -/
import Derived.Test.YtmfcbcgobefjkaaRectR
namespace Go.Proofs.Ytmfcbcgobefjkaa
open Go.RowKit AM
theorem mnL_len (a b : R4) : (mnL a b).length ≤ 4 := by
  unfold mnL
  split
  · split
    · exact Nat.le_trans (some4_len _) (by simp [cut4])
    · simp
  · simp
theorem rfL_len (a b c d : Int) : (rfL a b c d).length ≤ 1000000 := by
  cases hc : ckB a b c d with
  | false => rw [rfL_f hc]; simp
  | true =>
    have h := hc
    rw [ckB_iff] at hc
    obtain ⟨n, hn⟩ : ∃ n : Nat, c - a + 1 = (n : Int) := ⟨(c - a + 1).toNat, by omega⟩
    obtain ⟨m, hm⟩ : ∃ m : Nat, d - b + 1 = (m : Int) := ⟨(d - b + 1).toNat, by omega⟩
    by_cases hl : n * m ≤ 1024
    · rw [rfL_t h hn hm hl, refL_len, Nat.mul_comm]; omega
    · rw [rfL_l h hn hm hl]; simp
set_option maxRecDepth 100000 in
set_option maxHeartbeats 6400000 in
theorem rectParts_any (a1 a2 a3 a4 b1 b2 b3 b4 : Int) (w : World) :
    Calls Try.prog 3 #[.agg #[.int .i64 a1, .int .i64 a2, .int .i64 a3, .int .i64 a4], .agg #[.int .i64 b1, .int .i64 b2, .int .i64 b3, .int .i64 b4]] w fun e w' => e = .returned (.bool true) ∧ Below w.heap.size w w' := by
  have HML := Lib.hid (mnL_len ⟨a1, a2, a3, a4⟩ ⟨b1, b2, b3, b4⟩)
  have HRL := Lib.hid (rfL_len a1 a2 a3 a4)
  go_enter Try.func3, Try.ntmps3
  go_wp2_with fail
  have hW := two_blocks w a1 a2 a3 a4 b1 b2 b3 b4 23
  dsimp only at hW
  generalize ((w.alloc (.cells #[.int .i64 a1, .int .i64 a2, .int .i64 a3, .int .i64 a4] 23)).alloc (.cells #[.int .i64 b1, .int .i64 b2, .int .i64 b3, .int .i64 b4] 23)) = W0 at *
  obtain ⟨fa, fb, b0⟩ := hW
  refine (minus_any a1 a2 a3 a4 b1 b2 b3 b4 W0).mono ?_
  rintro e w1 ⟨⟨v1, rfl, hO⟩, hB⟩
  obtain ⟨sa1, sc1, rfl, hr1⟩ := hO.isR
  have FA1 := Lib.hid (fa.later hB)
  have FB1 := Lib.hid (fb.later hB)
  have HB1 := Lib.hid (Below.next b0 hB)
  have R1 := Lib.hid hr1
  clear hO hr1 hB fa fb b0
  obtain ⟨_, p1, p2, p3, p4⟩ := FA1.out
  obtain ⟨_, q1, q2, q3, q4⟩ := FB1.out
  go_wp2_with fail
  refine (qminus_any a1 a2 a3 a4 b1 b2 b3 b4 _).mono ?_
  rintro e w2 ⟨⟨v2, rfl, hO⟩, hB⟩
  clear p1 p2 p3 p4 q1 q2 q3 q4
  obtain ⟨sa2, sc2, rfl, hr2⟩ := hO.isR
  have FA2 := Lib.hid (FA1.out.later hB)
  have HB2 := Lib.hid (Below.next HB1.out hB)
  have R1' := Lib.hid (R1.out.later hB)
  have R2 := Lib.hid hr2
  clear hO hr2 hB R1
  obtain ⟨_, p1, p2, p3, p4⟩ := FA2.out
  go_wp2_with fail
  refine (area_any a1 a2 a3 a4 _).mono ?_
  rintro e w3 ⟨rfl, hB⟩
  clear p1 p2 p3 p4
  have FA3 := Lib.hid (FA2.out.later hB)
  have HB3 := Lib.hid (Below.next HB2.out hB)
  have R1 := Lib.hid (R1'.out.later hB)
  have R2' := Lib.hid (R2.out.later hB)
  clear hB R1' R2
  obtain ⟨_, p1, p2, p3, p4⟩ := FA3.out
  go_wp2_with fail
  refine (qarea_any a1 a2 a3 a4 _).mono ?_
  rintro e w4 ⟨rfl, hB⟩
  clear p1 p2 p3 p4
  have FA4 := Lib.hid (FA3.out.later hB)
  have HB4 := Lib.hid (Below.next HB3.out hB)
  have R1' := Lib.hid (R1.out.later hB)
  have R2 := Lib.hid (R2'.out.later hB)
  clear hB R1 R2'
  obtain ⟨_, p1, p2, p3, p4⟩ := FA4.out
  go_wp2_with fail
  refine (refs_any a1 a2 a3 a4 _).mono ?_
  rintro e w5 ⟨⟨v5, rfl, hO⟩, hB⟩
  clear p1 p2 p3 p4
  obtain ⟨sa5, sc5, rfl, hr5⟩ := hO.isQ
  have FA5 := Lib.hid (FA4.out.later hB)
  have HB5 := Lib.hid (Below.next HB4.out hB)
  have R1 := Lib.hid (R1'.out.later hB)
  have R2' := Lib.hid (R2.out.later hB)
  have Q1 := Lib.hid hr5
  clear hO hr5 hB R1' R2
  obtain ⟨_, p1, p2, p3, p4⟩ := FA5.out
  go_wp2_with fail
  refine (qrefs_any a1 a2 a3 a4 _).mono ?_
  rintro e w6 ⟨⟨v6, rfl, hO⟩, hB⟩
  clear p1 p2 p3 p4
  obtain ⟨sa6, sc6, rfl, hr6⟩ := hO.isQ
  have HB6 := Lib.hid (Below.next HB5.out hB)
  have R1' := Lib.hid (R1.out.later hB)
  have R2 := Lib.hid (R2'.out.later hB)
  have Q1' := Lib.hid (Q1.out.later hB)
  have Q2 := Lib.hid hr6
  clear hO hr6 hB R1 R2' Q1
  go_wp2_with fail
  refine (eqrects_any sa1 sa2 _ sc1 sc2 _ (by have := HML.out; omega) _ R1'.out R2.out).mono ?_
  rintro e w7 ⟨rfl, hB⟩
  have HB7 := Lib.hid (Below.next HB6.out hB)
  have Q1 := Lib.hid (Q1'.out.later hB)
  have Q2' := Lib.hid (Q2.out.later hB)
  clear hB
  go_wp2_with fail
  refine (eqrefs_any sa5 sa6 _ sc5 sc6 _ HRL.out _ Q1.out Q2'.out).mono ?_
  rintro e w8 ⟨rfl, hB⟩
  have HB8 := Lib.hid (Below.next HB7.out hB)
  clear hB
  go_wp2_with fail
  go_ret
  exact ⟨rfl, HB8.out⟩
end Go.Proofs.Ytmfcbcgobefjkaa
