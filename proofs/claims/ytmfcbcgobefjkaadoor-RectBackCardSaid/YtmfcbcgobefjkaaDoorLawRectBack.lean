/- RectBack: what was written is read again. -/
import Derived.Test.YtmfcbcgobefjkaaDoorLawRectTexts
import Derived.Test.YtmfcbcgobefjkaaDoorAddrMathC
import Derived.Deep.DeepCutAuto
namespace Go.Proofs.YtmfcbcgobefjkaaDoor
open Go.RowKit AM
theorem PZ_no58 {l : List UInt8} {c r : Int} (h : PZ l = (c, r, 0)) (j : Nat) : l[j]? ≠ some 58 := by
  intro hj
  unfold PZ at h
  cases hr : rd l with
  | none => rw [hr] at h; simp at h
  | some s =>
    obtain ⟨g1, _⟩ := rd_kinds hr
    have hlt : j < l.length := by
      rcases Nat.lt_or_ge j l.length with h | h
      · exact h
      · rw [List.getElem?_eq_none h] at hj; cases hj
    have := g1 j hlt
    rw [List.getElem?_eq_getElem hlt] at hj
    rw [Option.some.inj hj] at this
    revert this; decide
theorem RZ_fwd {a b c d : Int} (hk : ckB a b c d = true) : RZ (fmtR a b c d) = (a, b, c, d, 0) := by
  have hq := ckB_iff.1 hk
  have e1 : PZ (fmtL a b) = (a, b, 0) := PZ_fwd (okR_t hq.1)
  have e2 : PZ (fmtL c d) = (c, d, 0) := PZ_fwd (okR_t hq.2.1)
  unfold fmtR
  by_cases h : a = c ∧ b = d
  · rw [if_pos h]
    have hc : colon (fmtL a b) = (fmtL a b).length := (colon_unique ⟨Nat.le_refl _, fun j _ => PZ_no58 e1 j, fun h => absurd h (Nat.lt_irrefl _)⟩).symm
    unfold RZ
    rw [hc, if_neg (Nat.lt_irrefl _), List.take_of_length_le (Nat.le_refl _), e1, comb_0 rfl rfl]
    obtain ⟨rfl, rfl⟩ := h
    simp
  · rw [if_neg h]
    have hc : colon (fmtL a b ++ [58] ++ fmtL c d) = (fmtL a b).length := (colon_unique ⟨by simp, fun j hj => by
        rw [List.append_assoc, List.getElem?_append_left hj]; exact PZ_no58 e1 j, fun _ => by rw [List.append_assoc, List.getElem?_append_right (Nat.le_refl _)]; simp⟩).symm
    unfold RZ
    rw [hc, if_pos (by simp), List.append_assoc, List.take_append_of_le_length (Nat.le_refl _), List.take_of_length_le (Nat.le_refl _)]
    have hd : (fmtL a b ++ ([58] ++ fmtL c d)).drop ((fmtL a b).length + 1) = fmtL c d := by
      rw [List.drop_append]; simp
    rw [hd, e1, e2, comb_0 rfl rfl]
    simp only [Prod.mk.injEq, and_true]
    omega
theorem RZ_back {l : List UInt8} {a b c d : Int} (h : RZ l = (a, b, c, d, 0)) : ckB a b c d = true := by
  unfold RZ at h
  obtain ⟨p, hp⟩ : ∃ p, PZ (l.take (colon l)) = p := ⟨_, rfl⟩
  obtain ⟨q, hq, hqq⟩ : ∃ q, (if colon l < l.length then PZ (l.drop (colon l + 1)) else PZ (l.take (colon l))) = q ∧ (∃ m, PZ m = q) := by
    by_cases h : colon l < l.length
    · exact ⟨_, if_pos h, _, rfl⟩
    · exact ⟨_, if_neg h, _, rfl⟩
  simp only [hq] at h
  rw [hp] at h
  obtain ⟨m, hm⟩ := hqq
  obtain ⟨p1, p2, pe⟩ := p
  obtain ⟨q1, q2, qe⟩ := q
  unfold comb at h
  split at h
  · simp at h
  · split at h
    · simp at h
    · rename_i g1 g2
      simp only at g1 g2 h
      have e1 : pe = 0 := by omega
      have e2 : qe = 0 := by omega
      subst e1 e2
      simp only [Prod.mk.injEq, and_true] at h
      have o1 := okR_i (PZ_back hp).1
      have o2 := okR_i (PZ_back hm).1
      rw [ckB_iff]
      omega
theorem pow_of_laidK {w : World} (hl : laidMetH Tryd.prog Rows.rectBackRow.laid w) : Pow w :=
  pow_third (x := ("math/bits.deBruijn32tab", Rows.laid_math_bits_deBruijn32tab)) (y := ("math/bits.deBruijn64tab", Rows.laid_math_bits_deBruijn64tab)) (MakeChecks.laidMetH_plain _ _ _ (by kernel_rfl)) hl
set_option maxRecDepth 100000 in
set_option maxHeartbeats 3200000 in
theorem rectBack_any (a b c d : Int) (s : ByteArray) (w : World) (hs : s.size ≤ maxLen) (hl : laidMetH Tryd.prog Rows.rectBackRow.laid w) :
    Calls Tryd.prog 10 #[.agg #[.int .i64 a, .int .i64 b, .int .i64 c, .int .i64 d], .string s] w fun e w' => e = .returned (.bool true) ∧ Below w.heap.size w w' := by
  have HP := Lib.hid (pow_of_laidK hl)
  unfold maxLen at hs
  clear hl
  rcases Nat.lt_or_ge 300 s.size with hlen | hlen
  · go_enter Tryd.func10, Tryd.ntmps10
    go_wp2_with fail
    refine (knownR_any _).mono ?_
    rintro e w1 ⟨rfl, hB⟩
    go_wp2_with fail
    go_ret
    exact ⟨rfl, Below.next (below_alloc w _) hB⟩
  · go_enter Tryd.func10, Tryd.ntmps10
    go_wp2_with fail
    refine (rfmt_all a b c d _ (HP.out.later (below_alloc w _))).mono ?_
    rintro e w1 ⟨rfl, hB1⟩
    have F1 := Lib.hid ((Four.start w a b c d 23).later hB1)
    have B1 := Lib.hid (Below.next (below_alloc w (.cells #[.int .i64 a, .int .i64 b, .int .i64 c, .int .i64 d] 23)) hB1)
    clear hB1
    have hz1 := B1.out.size
    obtain ⟨_, g1, g2, g3, g4⟩ := F1.out
    go_upto_if 29 with (fail)
    refine (rcheck_any a b c d _).mono ?_
    rintro e w2 ⟨rfl, hB2⟩
    have F2 := Lib.hid (F1.out.later hB2)
    have B2 := Lib.hid (Below.next B1.out hB2)
    clear hB2 g1 g2 g3 g4 hz1
    obtain ⟨_, g1, g2, g3, g4⟩ := F2.out
    go_upto_if 29 with (fail)
    go_cut [5, 6] (fun _ _ wx => Below w.heap.size w wx)
    case first =>
      cases hk : ckB a b c d
      · have e1 : ckE a b c d = 3 := ckE_f hk
        rw [e1]
        clear hk e1
        go_wp2_with fail
        go_meet
        exact B2.out
      · have e1 : ckE a b c d = 0 := ckE_t hk
        have e2 : rfS a b c d = ⟨(fmtR a b c d).toArray⟩ := by unfold rfS; rw [if_pos hk]
        have hsz : (⟨(fmtR a b c d).toArray⟩ : ByteArray).size ≤ 2000 := by
          have hq := ckB_iff.1 hk
          have h1 := fmtL_le (okR_t hq.1)
          have h2 := fmtL_le (okR_t hq.2.1)
          unfold fmtR
          split <;> simp [ByteArray.size] <;> omega
        have hpz : RZ (⟨(fmtR a b c d).toArray⟩ : ByteArray).data.toList = (a, b, c, d, 0) := RZ_fwd hk
        rw [e1, e2]
        have HPZ := Lib.hid hpz
        clear hk e1 e2 hpz
        generalize (⟨(fmtR a b c d).toArray⟩ : ByteArray) = t at *
        go_wp2_with fail
        refine (rparse_all t hsz _).mono ?_
        rintro e w3 ⟨rfl, hB3⟩
        unfold rzV
        rw [HPZ.out]
        dsimp only
        have l3 := below_alloc w3 (.cells #[.int .i64 a, .int .i64 b, .int .i64 c, .int .i64 d] 23)
        have F4 := Lib.hid ((F2.out.later hB3).later l3)
        have P4 := Lib.hid (Four.start w3 a b c d 23)
        have B4 := Lib.hid (Below.next (Below.next B2.out hB3) l3)
        clear g1 g2 g3 g4 hB3 l3
        obtain ⟨_, g1, g2, g3, g4⟩ := F4.out
        obtain ⟨_, x1, x2, x3, x4⟩ := P4.out
        go_wp2_with fail
        go_meet
        exact B4.out
    case rest =>
    clear F1 F2 B1 B2 g1 g2 g3 g4
    have HC := Lib.hid hcut
    clear hcut
    go_wp2_with fail
    refine (rparse_all s (by omega) _).mono ?_
    rintro e w3 ⟨rfl, hB3⟩
    unfold rzV
    have B3 := Lib.hid (Below.next HC.out hB3)
    clear hB3
    obtain ⟨rz, hz⟩ : ∃ rz, RZ s.data.toList = rz := ⟨_, rfl⟩
    have HZ := Lib.hid hz
    rw [hz]
    clear hz
    obtain ⟨r1, r2, r3, r4, r5⟩ := rz
    dsimp only
    have l3 := below_alloc w3 (.cells #[.int .i64 r1, .int .i64 r2, .int .i64 r3, .int .i64 r4] 23)
    have P4 := Lib.hid (Four.start w3 r1 r2 r3 r4 23)
    have B4 := Lib.hid (Below.next B3.out l3)
    clear l3
    obtain ⟨_, x1, x2, x3, x4⟩ := P4.out
    by_cases he : r5 = 0
    · subst he
      have HK := Lib.hid (RZ_back HZ.out)
      go_wp2_with fail
      refine (rfmt_all r1 r2 r3 r4 _ (HP.out.later B4.out)).mono ?_
      rintro e w5 ⟨rfl, hB5⟩
      have e1 : ckE r1 r2 r3 r4 = 0 := ckE_t HK.out
      have e2 : rfS r1 r2 r3 r4 = ⟨(fmtR r1 r2 r3 r4).toArray⟩ := by unfold rfS; rw [if_pos HK.out]
      have hsz : (⟨(fmtR r1 r2 r3 r4).toArray⟩ : ByteArray).size ≤ 2000 := by
        have hq := ckB_iff.1 HK.out
        have h1 := fmtL_le (okR_t hq.1)
        have h2 := fmtL_le (okR_t hq.2.1)
        unfold fmtR
        split <;> simp [ByteArray.size] <;> omega
      have hpz : RZ (⟨(fmtR r1 r2 r3 r4).toArray⟩ : ByteArray).data.toList = (r1, r2, r3, r4, 0) := RZ_fwd HK.out
      rw [e1, e2]
      have HPZ := Lib.hid hpz
      clear e1 e2 hpz
      generalize (⟨(fmtR r1 r2 r3 r4).toArray⟩ : ByteArray) = t at *
      have P5 := Lib.hid (P4.out.later hB5)
      have B5 := Lib.hid (Below.next B4.out hB5)
      clear x1 x2 x3 x4 hB5
      obtain ⟨_, x1, x2, x3, x4⟩ := P5.out
      go_wp2_with fail
      refine (rparse_all t hsz _).mono ?_
      rintro e w6 ⟨rfl, hB6⟩
      unfold rzV
      rw [HPZ.out]
      dsimp only
      have l6 := below_alloc w6 (.cells #[.int .i64 r1, .int .i64 r2, .int .i64 r3, .int .i64 r4] 23)
      have P7 := Lib.hid ((P5.out.later hB6).later l6)
      have R7 := Lib.hid (Four.start w6 r1 r2 r3 r4 23)
      have B7 := Lib.hid (Below.next (Below.next B5.out hB6) l6)
      clear x1 x2 x3 x4 hB6 l6
      obtain ⟨_, x1, x2, x3, x4⟩ := P7.out
      obtain ⟨_, y1, y2, y3, y4⟩ := R7.out
      go_wp2_with fail
      refine (rcheck_any r1 r2 r3 r4 _).mono ?_
      rintro e w8 ⟨rfl, hB8⟩
      have e1 : ckE r1 r2 r3 r4 = 0 := ckE_t HK.out
      rw [e1]
      have B8 := Lib.hid (Below.next B7.out hB8)
      clear hB8 e1
      go_wp2_with fail
      refine (knownR_any _).mono ?_
      rintro e w9 ⟨rfl, hB9⟩
      go_wp2_with fail
      go_ret
      exact ⟨rfl, Below.next B8.out hB9⟩
    · have hne : (r5 == 0) = false := by simpa using he
      clear he
      go_wp2_with fail
      refine (knownR_any _).mono ?_
      rintro e w9 ⟨rfl, hB9⟩
      go_wp2_with fail
      go_ret
      exact ⟨rfl, Below.next B4.out hB9⟩
end Go.Proofs.YtmfcbcgobefjkaaDoor
