/- The contract of dec.Parse. -/
import Derived.Test.YtoeodfbmiiefkaaGreatDoorTxtB
import Derived.Test.YtoeodfbmiiefkaaGreatDoorTxtCut
namespace Go.Proofs.YtoeodfbmiiefkaaGreatDoor.Tx
open Go.RowKit
theorem par_none {l : List UInt8} (h : formL (bodyL l) = none) : parV l = 0 ∧ parE l = 4 := by unfold parV parE; rw [h]; exact ⟨rfl, rfl⟩
theorem par_far {l w p : List UInt8} (h : formL (bodyL l) = some (w, p)) (h2 : mostI < valL w p) : parV l = 0 ∧ parE l = 3 := by
  unfold parV parE; rw [h]; dsimp only; rw [if_neg (by omega), if_neg (by omega)]; exact ⟨rfl, rfl⟩
theorem par_neg {l w p : List UInt8} (h : formL (bodyL l) = some (w, p)) (h2 : valL w p ≤ mostI) (h3 : negL l = true) : parV l = -valL w p ∧ parE l = 0 := by
  unfold parV parE; rw [h]; dsimp only; rw [if_pos h2, if_pos h2, if_pos h3]; exact ⟨rfl, rfl⟩
theorem par_pos {l w p : List UInt8} (h : formL (bodyL l) = some (w, p)) (h2 : valL w p ≤ mostI) (h3 : negL l = false) : parV l = valL w p ∧ parE l = 0 := by
  unfold parV parE; rw [h]; dsimp only; rw [if_pos h2, if_pos h2, if_neg (by simp [h3])]; exact ⟨rfl, rfl⟩
theorem trim_body (l : List UInt8) : Lib.trimPrefix l [45] = bodyL l ∧ Lib.hasPrefix l [45] = negL l := by
  have h : Lib.hasPrefix l [45] = negL l := by
    unfold Lib.hasPrefix negL
    cases l with
    | nil => rfl
    | cons c t =>
      rw [List.isPrefixOf_cons_cons]
      simp [Bool.beq_comm]
  refine ⟨?_, h⟩
  unfold Lib.trimPrefix bodyL
  rw [h]
  split
  · cases l <;> rfl
  · rfl
theorem allB_iff {l : List UInt8} : allB l = true ↔ (∀ c ∈ l, isDg c = true) ∧ l ≠ [] := by
  unfold allB
  rw [Bool.and_eq_true, List.all_eq_true]
  cases l <;> simp
theorem ext_left (b : ByteArray) (n : Nat) : (b.extract 0 n).data.toList = b.data.toList.take n := by
  rw [ByteArray.data_extract, Array.toList_extract]
  simp [List.extract]
theorem ext_right (b : ByteArray) (n : Nat) : (b.extract n b.size).data.toList = b.data.toList.drop n := by
  rw [ByteArray.data_extract, Array.toList_extract]
  simp only [List.extract]
  rw [List.take_of_length_le (by simp)]
theorem valL_pos {w p : List UInt8} (hw : ∀ c ∈ w, isDg c = true) (hp : ∀ c ∈ p, isDg c = true) : 0 ≤ valL w p := by
  have e1 := numL_pos (digsL w p) fun c hc => (List.mem_append.1 hc).elim (hw c) (p4_dg hp c)
  have e2 := upL_bd p
  unfold valL
  omega
theorem retVE {a b a' b' : Int} (h : a' = a ∧ b' = b) : Ending.returned (.tuple #[.int .i64 a, .int .i64 b]) = .returned (.tuple #[.int .i64 a', .int .i64 b']) := by rw [h.1, h.2]
set_option maxRecDepth 100000 in
set_option maxHeartbeats 1600000 in
theorem parse_any (s : ByteArray) (hs : s.size ≤ 2000) (w : World) :
    Calls Tryz.prog 83 #[.string s] w fun e w' => e = .returned (.tuple #[.int .i64 (parV s.data.toList), .int .i64 (parE s.data.toList)]) ∧ Below w.heap.size w w' := by
  obtain ⟨t1, t2⟩ := trim_body s.data.toList
  have HT1 := Lib.hid t1
  have HT2 := Lib.hid t2
  have HBL : Hid ((bodyL s.data.toList).length ≤ 2000) := by
    unfold Hid bodyL
    have : s.data.toList.length = s.size := by simp
    split
    · rw [List.length_tail]; omega
    · omega
  clear t1 t2
  have HPN := Lib.hid (par_none (l := s.data.toList))
  have HPF := Lib.hid (fun w p => par_far (l := s.data.toList) (w := w) (p := p))
  have HPM := Lib.hid (fun w p => par_neg (l := s.data.toList) (w := w) (p := p))
  have HPP := Lib.hid (fun w p => par_pos (l := s.data.toList) (w := w) (p := p))
  generalize bodyL s.data.toList = bl at *
  generalize negL s.data.toList = neg at *
  generalize parV s.data.toList = rV at *
  generalize parE s.data.toList = rE at *
  go_enter Tryz.func83, Tryz.ntmps83
  go_wp2_with fail
  refine (Tryz.strings_CutPrefix s ⟨#[45]⟩ _).mono ?_
  rintro e w1 ⟨rfl, hw1⟩
  subst w1
  rw [show (⟨#[45]⟩ : ByteArray).data.toList = [45] from rfl, HT1.out, HT2.out]
  clear HT1 HT2
  obtain ⟨b, hb⟩ : ∃ b : ByteArray, b.data.toList = bl := ⟨⟨bl.toArray⟩, by simp⟩
  have hbs : b.size ≤ 2000 := by have := HBL.out; rw [← hb] at this; simpa using this
  rw [show (⟨bl.toArray⟩ : ByteArray) = b by rw [← hb]]
  subst hb
  clear HBL
  go_wp2_with fail
  refine (cutD_any b hbs _).mono ?_
  rintro e w1 ⟨rfl, q, rfl⟩
  have HBB : Hid (∀ w', Below (w.drewN q).heap.size (w.drewN q) w' → Below w.heap.size w w') := fun w' h => ⟨h.os, h.tape, h.output, h.size, h.block⟩
  generalize w.drewN q = w0 at *
  by_cases hd : dotP b.data.toList < b.size
  · obtain ⟨d1, d2, d3⟩ := dotP_at b.data.toList
    have hbl : b.data.toList.length = b.size := by simp
    have d3 := d3 (by omega)
    generalize hn : dotP b.data.toList = n at *
    have hsp : b.data.toList = b.data.toList.take n ++ 46 :: b.data.toList.drop (n + 1) := by
      have h1 := List.take_append_drop n b.data.toList
      rw [List.drop_eq_getElem_cons (by omega)] at h1
      rw [List.getElem?_eq_getElem (by omega)] at d3
      rw [Option.some.inj d3] at h1
      exact h1.symm
    have hnd : ∀ c ∈ b.data.toList.take n, c ≠ 46 := by
      intro c hc e
      subst e
      obtain ⟨j, hj, he⟩ := List.mem_iff_getElem.1 hc
      rw [List.length_take] at hj
      rw [List.getElem_take] at he
      exact d2 j (by omega) (by rw [List.getElem?_eq_getElem (by omega), he])
    have hf := form_at (p := b.data.toList.drop (n + 1)) hnd
    rw [← hsp] at hf
    have HC := Lib.hid (cutD_yes hn hd)
    have e1 := ext_left b n
    have e2 := ext_right b (n + 1)
    have s1 : (b.extract 0 n).size ≤ 2000 := by rw [← ByteArray.size_data, ← Array.length_toList, e1, List.length_take]; omega
    have s2 : (b.extract (n + 1) b.size).size ≤ 2000 := by rw [← ByteArray.size_data, ← Array.length_toList, e2, List.length_drop]; omega
    rw [← e1, ← e2] at hf
    rw [HC.out]
    have HF := Lib.hid hf
    clear HC e1 e2 hf hsp hnd d1 d2 d3 hbl hn hd
    generalize b.extract 0 n = x at *
    generalize b.extract (n + 1) b.size = y at *
    generalize b.data.toList = bl at *
    go_wp2_with fail
    refine (allDigits_any x (by unfold maxLen; omega) _).mono ?_
    rintro e w1 ⟨rfl, rfl⟩
    cases hx : allB x.data.toList
    · have HN := Lib.hid (HPN.out (by rw [HF.out, hx]; rfl))
      clear hx
      go_wp2_with fail
      go_ret2
      exact ⟨retVE HN.out, HBB.out _ (Below.refl _ _)⟩
    · have HX := Lib.hid hx
      clear hx
      go_wp2_with fail
      refine (allDigits_any y (by unfold maxLen; omega) _).mono ?_
      rintro e w1 ⟨rfl, rfl⟩
      cases hy : allB y.data.toList
      · have HN := Lib.hid (HPN.out (by rw [HF.out, HX.out, hy]; rfl))
        clear hy
        go_wp2_with fail
        go_ret2
        exact ⟨retVE HN.out, HBB.out _ (Below.refl _ _)⟩
      · have HS := Lib.hid (HF.out.trans (by rw [HX.out, hy, Bool.and_true, if_pos rfl]))
        have hdx := (allB_iff.1 HX.out).1
        have hdy := (allB_iff.1 hy).1
        have hp := valL_pos hdx hdy
        have HDX := Lib.hid hdx
        have HDY := Lib.hid hdy
        clear hy hdx hdy HX HF
        go_wp2_with fail
        refine (scaled_any x y (by unfold maxLen; omega) HDX.out HDY.out _).mono ?_
        rintro e w1 ⟨⟨m, rfl, hm⟩, hB⟩
        have HB := Lib.hid hB
        clear hB
        by_cases hv : valL x.data.toList y.data.toList ≤ mostI
        · obtain rfl := hm hv
          have HM := Lib.hid (HPM.out _ _ HS.out hv)
          have HP := Lib.hid (HPP.out _ _ HS.out hv)
          rw [decide_eq_true hv]
          have hv2 : valL x.data.toList y.data.toList ≤ 9223372036854775807 := hv
          clear hv hm
          generalize valL x.data.toList y.data.toList = v at *
          cases neg
          · have HP2 := Lib.hid (HP.out rfl)
            clear HM HP
            go_wp2_with fail
            go_ret2
            exact ⟨retVE HP2.out, HBB.out _ HB.out⟩
          · have HP2 := Lib.hid (HM.out rfl)
            clear HM HP
            go_wp2_with fail
            go_ret2
            exact ⟨retVE HP2.out, HBB.out _ HB.out⟩
        · have HN := Lib.hid (HPF.out _ _ HS.out (by omega))
          rw [decide_eq_false hv]
          clear hv hm
          go_wp2_with fail
          go_ret2
          exact ⟨retVE HN.out, HBB.out _ HB.out⟩
  · obtain ⟨d1, d2, d3⟩ := dotP_at b.data.toList
    have hbl : b.data.toList.length = b.size := by simp
    have hnd : ∀ c ∈ b.data.toList, c ≠ 46 := by
      intro c hc e
      subst e
      obtain ⟨j, hj, he⟩ := List.mem_iff_getElem.1 hc
      exact d2 j (by omega) (by rw [List.getElem?_eq_getElem hj, he])
    have hf := form_no hnd
    have HC := Lib.hid (cutD_no hd)
    rw [HC.out]
    have HF := Lib.hid hf
    clear HC hf hnd d1 d2 d3 hbl hd
    go_wp2_with fail
    refine (allDigits_any b (by unfold maxLen; omega) _).mono ?_
    rintro e w1 ⟨rfl, rfl⟩
    cases hx : allB b.data.toList
    · have HN := Lib.hid (HPN.out (by rw [HF.out, hx]; rfl))
      clear hx
      go_wp2_with fail
      go_ret2
      exact ⟨retVE HN.out, HBB.out _ (Below.refl _ _)⟩
    · have HS := Lib.hid (HF.out.trans (by rw [hx, if_pos rfl]))
      have hdx := (allB_iff.1 hx).1
      have hdy : ∀ c ∈ (⟨#[]⟩ : ByteArray).data.toList, isDg c = true := fun c hc => by cases hc
      have hp := valL_pos hdx hdy
      have HDX := Lib.hid hdx
      have HDY := Lib.hid hdy
      clear hx hdx hdy HF
      go_wp2_with fail
      refine (scaled_any b ⟨#[]⟩ (by unfold maxLen; omega) HDX.out HDY.out _).mono ?_
      rintro e w1 ⟨⟨m, rfl, hm⟩, hB⟩
      have HB := Lib.hid hB
      clear hB
      rw [show (⟨#[]⟩ : ByteArray).data.toList = [] from rfl] at *
      by_cases hv : valL b.data.toList [] ≤ mostI
      · obtain rfl := hm hv
        have HM := Lib.hid (HPM.out _ _ HS.out hv)
        have HP := Lib.hid (HPP.out _ _ HS.out hv)
        rw [decide_eq_true hv]
        have hv2 : valL b.data.toList [] ≤ 9223372036854775807 := hv
        clear hv hm
        generalize valL b.data.toList [] = v at *
        cases neg
        · have HP2 := Lib.hid (HP.out rfl)
          clear HM HP
          go_wp2_with fail
          go_ret2
          exact ⟨retVE HP2.out, HBB.out _ HB.out⟩
        · have HP2 := Lib.hid (HM.out rfl)
          clear HM HP
          go_wp2_with fail
          go_ret2
          exact ⟨retVE HP2.out, HBB.out _ HB.out⟩
      · have HN := Lib.hid (HPF.out _ _ HS.out (by omega))
        rw [decide_eq_false hv]
        clear hv hm
        go_wp2_with fail
        go_ret2
        exact ⟨retVE HN.out, HBB.out _ HB.out⟩
end Go.Proofs.YtoeodfbmiiefkaaGreatDoor.Tx
