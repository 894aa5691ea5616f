/- The statement DecMany: sums and means of lists. -/
import Derived.Test.YticjclllhjehfaaDoorKnown
import Derived.Test.YticjclllhjehfaaDoorRefNear
namespace Go.Proofs.YticjclllhjehfaaDoor
open Go.RowKit

/-! An empty list, wherever it lies -/
set_option maxRecDepth 100000 in
set_option maxHeartbeats 400000 in
theorem dsum_nil (a : Option Addr) (cap : Nat) (w : World) :
    Calls Tryd.prog 13 #[.slice a 0 cap] w fun e w' => e = .returned (.tuple #[.int .i64 0, .bool true]) ∧ w = w' := by
  have ht : Calls Tryd.prog 34 #[.slice a 0 cap] w fun e w' => e = .returned (.tuple #[.int .u64 0, .int .u64 0, .bool false]) ∧ w = w' := by
    go_enter Tryd.func34, Tryd.ntmps34
    go_wp2_with fail
    refine wp_loop_rounds 1 ?_
    rw [rounds_succ]
    go_wp2_with fail
    go_ret3
    exact ⟨rfl, rfl⟩
  have HT := Lib.hid ht
  clear ht
  go_enter Tryd.func13, Tryd.ntmps13
  go_wp2_with fail
  refine HT.out.mono ?_
  rintro e w1 ⟨rfl, rfl⟩
  go_wp2_with fail
  refine (dsigned_any 0 (by omega) (by omega) false _).mono ?_
  rintro e w1 ⟨rfl, rfl⟩
  go_wp2_with fail
  go_ret2
  exact ⟨by rw [show sg 0 false = 0 by rfl, resV_t (z := 0) (by omega), resB_t (z := 0) (by omega)]; rfl, rfl⟩
set_option maxHeartbeats 400000 in
theorem dmean_nil (a : Option Addr) (cap : Nat) (w : World) :
    Calls Tryd.prog 15 #[.slice a 0 cap] w fun e w' => e = .returned (.tuple #[.int .i64 0, .bool false]) ∧ w = w' := by
  go_enter Tryd.func15, Tryd.ntmps15
  go_wp2_with fail
  go_ret2
  exact ⟨rfl, rfl⟩
set_option maxRecDepth 100000 in
set_option maxHeartbeats 800000 in
theorem rsum_nil (a : Option Addr) (cap : Nat) (w : World) :
    Calls Tryd.prog 14 #[.slice a 0 cap] w fun e w' => e = .returned (.tuple #[.int .i64 0, .bool true]) ∧ Below w.heap.size w w' := by
  have ht : Calls Tryd.prog 36 #[.slice a 0 cap] w fun e w' => e = .returned (.tuple #[.agg #[.int .u64 0, .int .u64 0], .bool false]) ∧ Below w.heap.size w w' := by
    have q0 : Hold (((w.alloc (.cells #[.int .u64 0, .int .u64 0] 52)).alloc (.cells #[.int .u64 0, .int .u64 0] 52)).alloc (.cells #[.int .u64 0, .int .u64 0] 52)) w.heap.size 0 0 :=
      (Hold.new.later ((Below.refl _ _).alloc (by simp) _)).later ((Below.refl _ _).alloc (by simp) _)
    have hb0 : Below w.heap.size w (((w.alloc (.cells #[.int .u64 0, .int .u64 0] 52)).alloc (.cells #[.int .u64 0, .int .u64 0] 52)).alloc (.cells #[.int .u64 0, .int .u64 0] 52)) := (((Below.refl _ _).alloc (by simp) _).alloc (by simp) _).alloc (by simp; omega) _
    go_enter Tryd.func36, Tryd.ntmps36
    go_wp2_with fail
    refine wp_loop_rounds 1 ?_
    rw [rounds_succ]
    go_wp2_with fail
    refine (less_any _ _ _ _ _ _ IsW.zero IsW.zero _).mono ?_
    rintro e w1 ⟨rfl, hB1⟩
    rw [ltB_f (by omega)]
    obtain ⟨u0, u1, u2, u3, u4⟩ := Hold.later q0 hB1
    have hc := bcell hB1
    obtain ⟨hc, hf⟩ := hc
    simp at hc hf
    go_wp2_with fail
    refine (minus_any _ _ _ _ _ _ IsW.zero IsW.zero (by omega) _).mono ?_
    rintro e w2 ⟨h, l, rfl, hI, hB2⟩
    have hz : h = 0 ∧ l = 0 := by unfold IsW InU at hI; omega
    obtain ⟨rfl, rfl⟩ := hz
    have k2 := Hold.later (Hold.later q0 hB1) hB2
    obtain ⟨v0, v1, v2, v3, v4⟩ := id k2
    obtain ⟨s0, s1, s2, s3, s4⟩ := Hold.set k2 0 0
    go_wp2_with fail
    refine bodyPost_ret (v := .tuple #[.agg #[.int .u64 0, .int .u64 0], .bool false]) (by simp [results, Tryd.results36, go_sem, s1, s2]) rfl ⟨rfl, ((Below.next (Below.next hb0 hB1) hB2).setCell (by simp) _).setCell (by simp) _⟩
  have HT := Lib.hid ht
  clear ht
  go_enter Tryd.func14, Tryd.ntmps14
  go_wp2_with fail
  refine HT.out.mono ?_
  rintro e w1 ⟨rfl, hB1⟩
  go_wp2_with fail
  refine (signed_any _ _ _ IsW.zero _ _).mono ?_
  rintro e w2 ⟨rfl, hB2⟩
  go_wp2_with fail
  go_ret2
  exact ⟨by rw [show sg 0 false = 0 by rfl, resV_t (z := 0) (by omega), resB_t (z := 0) (by omega)]; rfl, Below.next (hB1.alloc hB1.size _) hB2⟩
set_option maxHeartbeats 400000 in
theorem rmean_nil (a : Option Addr) (cap : Nat) (w : World) :
    Calls Tryd.prog 16 #[.slice a 0 cap] w fun e w' => e = .returned (.tuple #[.int .i64 0, .bool false]) ∧ w = w' := by
  go_enter Tryd.func16, Tryd.ntmps16
  go_wp2_with fail
  go_ret2
  exact ⟨rfl, rfl⟩
set_option maxHeartbeats 400000 in
theorem rmean_any (b off cap : Nat) (zs : List Int) (hz : ∀ z ∈ zs, InI z) (hl : zs.length ≤ 4000000000) (h1 : 1 ≤ zs.length) (w : World) (hm : InMem w b off zs) :
    Calls Tryd.prog 16 #[.slice (some ⟨b, off, none⟩) zs.length cap] w fun e w' => e = .returned (.tuple #[.int .i64 (resV (meanZ zs)), .bool (resB (meanZ zs))]) ∧ Below w.heap.size w w' := by
  have HZ := Lib.hid hz
  have HM := Lib.hid hm
  have hs := Lib.hid (sum_bd zs hz)
  have hbd : Hid (sizeOf' zs.sum + (zs.length : Int) / 2 < 340282366920938463463374607431768211456) := by
    unfold Hid sizeOf'; have := hs.out; split <;> omega
  clear hz hm
  have hne : ((zs.length : Int) == 0) = false := by rw [beq_eq_false_iff_ne]; omega
  go_enter Tryd.func16, Tryd.ntmps16
  go_wp2_with fail
  refine (total_any b off cap zs HZ.out hl _ HM.out).mono ?_
  rintro e w1 ⟨h, l, rfl, hI, hB1⟩
  go_wp2_with fail
  refine (nearest_any _ _ (zs.length : Int) _ hI (by omega) (by omega) hbd.out _).mono ?_
  rintro e w2 ⟨h2, l2, rfl, hI2, hB2⟩
  go_wp2_with fail
  refine (signed_any _ _ _ hI2 _ _).mono ?_
  rintro e w3 ⟨rfl, hB3⟩
  go_wp2_with fail
  go_ret2
  exact ⟨rfl, Below.next (Below.next (hB1.alloc hB1.size _) hB2) hB3⟩

/-- A slice of numbers that came in: empty, or a list in memory. -/
def Came (w : World) (a : Option Addr) (len : Nat) (zs : List Int) : Prop :=
  len = zs.length ∧ (∀ z ∈ zs, InI z) ∧ (zs = [] ∨ ∃ b off, a = some ⟨b, off, none⟩ ∧ InMem w b off zs)
theorem came_of {w : World} {a : Option Addr} {len cap : Nat} {z : List Int}
    (h : (a = none ∧ len = 0 ∧ cap = 0 ∧ z = []) ∨ ∃ x, a = some x ∧ len ≤ cap ∧ cap ≤ maxLen ∧ z.length = cap ∧ (∀ i, i < z.length → w.cell? (x.add i) = some (.int .i64 (z.getD i 0))) ∧ ∀ n ∈ z, (Lit.int .i64 n).wf = true) :
    Came w a len (z.take len) ∧ len ≤ 9223372036854775807 := by
  rcases h with ⟨rfl, rfl, rfl, rfl⟩ | ⟨x, rfl, hl, hm, hz, hcell, hwz⟩
  · exact ⟨⟨rfl, by simp, Or.inl rfl⟩, by omega⟩
  · refine ⟨⟨by rw [List.length_take]; omega, fun q hq => inI_of_wf (hwz q (List.mem_of_mem_take hq)), ?_⟩, by unfold maxLen at hm; omega⟩
    by_cases h0 : len = 0
    · left; simp [h0]
    · right
      obtain ⟨b, off, spot⟩ := x
      have hc := hcell 0 (by omega)
      have hspot : spot = none := by simpa [Addr.add] using World.cell?_spot hc
      subst hspot
      refine ⟨b, off, rfl, ?_, ?_⟩
      · have := World.block_lt_of_cell? _ _ hc
        simpa [Addr.add] using this
      · intro i hi
        have hi' : i < len := by rw [List.length_take] at hi; omega
        have := hcell i (by omega)
        rw [List.getD_eq_getElem?_getD] at this ⊢
        rw [List.getElem?_take, if_pos hi']
        by_cases hi0 : i = 0
        · subst hi0
          simpa [Addr.add] using this
        · simpa [Addr.add, hi0] using this
set_option maxHeartbeats 800000 in
theorem decMany_any (a : Option Addr) (len cap : Nat) (zs : List Int) (w : World) (hc : Came w a len zs) (hl : len ≤ 9223372036854775807) :
    Calls Tryd.prog 3 #[.slice a len cap] w fun e w' => e = .returned (.bool true) ∧ Below w.heap.size w w' := by
  by_cases h3 : 300 < len
  · clear hc
    go_enter Tryd.func3, Tryd.ntmps3
    go_wp2_with fail
    refine (known_any _).mono ?_
    rintro e w1 ⟨rfl, hB⟩
    go_wp2_with fail
    go_ret
    exact ⟨rfl, hB⟩
  · obtain ⟨rfl, hz, hm⟩ := hc
    rcases hm with rfl | ⟨b, off, rfl, hm⟩
    · clear hz h3 hl
      simp only [List.length_nil]
      go_enter Tryd.func3, Tryd.ntmps3
      go_wp2_with fail
      refine (dsum_nil a cap _).mono ?_
      rintro e w1 ⟨rfl, rfl⟩
      go_wp2_with fail
      refine (rsum_nil a cap _).mono ?_
      rintro e w1 ⟨rfl, hB1⟩
      go_wp2_with fail
      refine (dmean_nil a cap _).mono ?_
      rintro e w2 ⟨rfl, rfl⟩
      go_wp2_with fail
      refine (rmean_nil a cap _).mono ?_
      rintro e w2 ⟨rfl, rfl⟩
      go_wp2_with fail
      go_ret
      exact ⟨rfl, hB1⟩
    · by_cases hn : zs = []
      · subst hn
        clear hz h3 hl hm
        simp only [List.length_nil]
        go_enter Tryd.func3, Tryd.ntmps3
        go_wp2_with fail
        refine (dsum_nil _ cap _).mono ?_
        rintro e w1 ⟨rfl, rfl⟩
        go_wp2_with fail
        refine (rsum_nil _ cap _).mono ?_
        rintro e w1 ⟨rfl, hB1⟩
        go_wp2_with fail
        refine (dmean_nil _ cap _).mono ?_
        rintro e w2 ⟨rfl, rfl⟩
        go_wp2_with fail
        refine (rmean_nil _ cap _).mono ?_
        rintro e w2 ⟨rfl, rfl⟩
        go_wp2_with fail
        go_ret
        exact ⟨rfl, hB1⟩
      · have hpos : 1 ≤ zs.length := by
          rcases Nat.eq_zero_or_pos zs.length with h | h
          · exact absurd (List.length_eq_zero_iff.1 h) hn
          · exact h
        have HZ := Lib.hid hz
        have HM := Lib.hid hm
        clear hz hm hn
        go_enter Tryd.func3, Tryd.ntmps3
        go_wp2_with fail
        refine (dsum_any b off cap zs HZ.out (by omega) _ HM.out).mono ?_
        rintro e w1 ⟨rfl, rfl⟩
        go_wp2_with fail
        refine (rsum_any b off cap zs HZ.out (by omega) _ HM.out).mono ?_
        rintro e w1 ⟨rfl, hB1⟩
        have HM1 := Lib.hid (HM.out.later hB1)
        go_wp2_with fail
        refine (dmean_b b off cap zs HZ.out (by omega) hpos _ HM1.out).mono ?_
        rintro e w2 ⟨rfl, hB2⟩
        have HM2 := Lib.hid (HM1.out.later hB2)
        go_wp2_with fail
        refine (rmean_any b off cap zs HZ.out (by omega) hpos _ HM2.out).mono ?_
        rintro e w3 ⟨rfl, hB3⟩
        go_wp2_with fail
        go_ret
        exact ⟨rfl, Below.next (Below.next hB1 hB2) hB3⟩
end Go.Proofs.YticjclllhjehfaaDoor
