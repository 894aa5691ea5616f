/- Merged: TxtCut TxtC. -/
import Derived.Test.YtfjefanhkbcfgaaGreatDoorMga
import Derived.Lib.IndexLaws
import Derived.WalkKit
import Derived.WalkSpells
import Derived.WalkLawsBesides
import Derived.Lib.Hide
import Derived.BigQuiet
import Derived.Deep.QuietTactic
import Derived.Outline
import Derived.Test.YtfjefanhkbcfgaaGreatDoorTxtB
/- Where the point of a number's text lies, and the contract of strings.Cut at it. -/
namespace Go.Proofs.YtfjefanhkbcfgaaGreatDoor.Tx
open Go.RowKit
/-- The place of the first dotP; the length if there is none. -/
def dotP (l : List UInt8) : Nat := if Lib.indexByte l 46 = -1 then l.length else (Lib.indexByte l 46).toNat
def DotAt (l : List UInt8) (n : Nat) : Prop := n ≤ l.length ∧ (∀ j, j < n → l[j]? ≠ some 46) ∧ (n < l.length → l[n]? = some 46)
theorem dotP_at (l : List UInt8) : DotAt l (dotP l) := by
  unfold dotP
  have hge := Lib.indexByte_ge l 46
  split
  · rename_i h
    exact ⟨Nat.le_refl _, fun j _ => Lib.indexByte_none h j, fun h => absurd h (Nat.lt_irrefl _)⟩
  · rename_i h
    obtain ⟨n, hn⟩ := Int.eq_ofNat_of_zero_le (show 0 ≤ Lib.indexByte l 46 by omega)
    obtain ⟨h1, h2⟩ := Lib.indexByte_some hn
    rw [hn, Int.toNat_natCast]
    have : n < l.length := by
      rcases Nat.lt_or_ge n l.length with h | h
      · exact h
      · rw [List.getElem?_eq_none h] at h1; cases h1
    exact ⟨by omega, h2, fun _ => h1⟩
theorem dotP_le (l : List UInt8) : dotP l ≤ l.length := (dotP_at l).1
def cutD (s : ByteArray) : Value := if dotP s.data.toList < s.size then .tuple #[.string (s.extract 0 (dotP s.data.toList)), .string (s.extract (dotP s.data.toList + 1) s.size), .bool true] else .tuple #[.string s, .string ⟨#[]⟩, .bool false]
theorem cutD_no {s : ByteArray} (h : ¬ dotP s.data.toList < s.size) : cutD s = .tuple #[.string s, .string ⟨#[]⟩, .bool false] := by unfold cutD; rw [if_neg h]
theorem cutD_yes {s : ByteArray} {n : Nat} (hn : dotP s.data.toList = n) (h : n < s.size) : cutD s = .tuple #[.string (s.extract 0 n), .string (s.extract (n + 1) s.size), .bool true] := by unfold cutD; rw [hn, if_pos h]
theorem cutliteD_any (s : ByteArray) (hs : s.size ≤ 2000) (w : World) :
    Calls Tryz.prog 241 #[.string s, .string ⟨#[46]⟩] w fun e w' =>
      e = .returned (cutD s) ∧ ∃ k, w' = w.drewN k := by
  have hge := Lib.indexByte_ge s.data.toList 46
  have hle := dotP_le s.data.toList
  have hlen : s.data.toList.length = s.size := by simp
  by_cases h : Lib.indexByte s.data.toList 46 = -1
  · have hc : Hid (cutD s = .tuple #[.string s, .string ⟨#[]⟩, .bool false]) := cutD_no (by unfold dotP; rw [if_pos h, hlen]; exact Nat.lt_irrefl _)
    have HI := Lib.hid h
    clear h hle hge
    go_enter Tryz.func241, Tryz.ntmps241
    go_wp2_with fail
    refine (Tryz.stringslite_Index_one s 46 _).mono ?_
    rintro e w1 ⟨rfl, rfl⟩
    rw [HI.out]
    go_wp2_with fail
    go_ret3
    exact ⟨congrArg Ending.returned hc.out.symm, 0, rfl⟩
  · obtain ⟨n, hn⟩ := Int.eq_ofNat_of_zero_le (show 0 ≤ Lib.indexByte s.data.toList 46 by omega)
    have hcn : dotP s.data.toList = n := by unfold dotP; rw [if_neg h, hn]; rfl
    obtain ⟨h1, h2⟩ := Lib.indexByte_some hn
    have hlt : n < s.size := by
      rcases Nat.lt_or_ge n s.size with h | h
      · exact h
      · rw [List.getElem?_eq_none (by omega)] at h1; cases h1
    have hc := Lib.hid (cutD_yes hcn hlt)
    have HI := Lib.hid hn
    clear h hle hge hn hcn h1 h2 hlen
    have e1 : IntKind.i64.wrap ((n : Int) + 1) = (n : Int) + 1 := IntWalk.i64_in _ (by omega)
    have e2 : (0 : Int) ≤ (n : Int) := by omega
    have e3 : (n : Int) ≤ (s.size : Int) := by omega
    have e4 : (n : Int) + 1 ≤ (s.size : Int) := by omega
    have e5 : (0 : Int) ≤ (n : Int) + 1 := by omega
    go_enter Tryz.func241, Tryz.ntmps241
    go_wp2_with fail
    refine (Tryz.stringslite_Index_one s 46 _).mono ?_
    rintro e w1 ⟨rfl, rfl⟩
    rw [HI.out]
    go_wp2_with fail
    go_quiet (fail)
    go_wp2_with fail
    go_ret3
    exact ⟨congrArg Ending.returned hc.out.symm, _, rfl⟩
theorem cutD_any (s : ByteArray) (hs : s.size ≤ 2000) (w : World) :
    Calls Tryz.prog 217 #[.string s, .string ⟨#[46]⟩] w fun e w' => e = .returned (cutD s) ∧ ∃ k, w' = w.drewN k := by
  by_cases h : dotP s.data.toList < s.size
  · have hc := Lib.hid (cutD_yes rfl h)
    generalize dotP s.data.toList = n at *
    clear h
    go_enter Tryz.func217, Tryz.ntmps217
    go_wp2_with fail
    refine (cutliteD_any s hs _).mono ?_
    rintro e w1 ⟨rfl, k, rfl⟩
    rw [hc.out]
    go_wp2_with fail
    go_ret3
    exact ⟨congrArg Ending.returned hc.out.symm, k, rfl⟩
  · have hc := Lib.hid (cutD_no h)
    clear h
    go_enter Tryz.func217, Tryz.ntmps217
    go_wp2_with fail
    refine (cutliteD_any s hs _).mono ?_
    rintro e w1 ⟨rfl, k, rfl⟩
    rw [hc.out]
    go_wp2_with fail
    go_ret3
    exact ⟨congrArg Ending.returned hc.out.symm, k, rfl⟩
end Go.Proofs.YtfjefanhkbcfgaaGreatDoor.Tx
/- The contract of dec.Parse. -/
namespace Go.Proofs.YtfjefanhkbcfgaaGreatDoor.Tx
open Go.RowKit
theorem par_none {l : List UInt8} (h : formL (bodyL l) = none) : parV l = 0 ∧ parE l = 4 := by unfold parV parE; rw [h]; exact ⟨rfl, rfl⟩
theorem par_far {l w p : List UInt8} (h : formL (bodyL l) = some (w, p)) (h2 : mostI < valL w p) : parV l = 0 ∧ parE l = 3 := by
  unfold parV parE; rw [h]; dsimp only; rw [if_neg (by omega), if_neg (by omega)]; exact ⟨rfl, rfl⟩
theorem par_neg {l w p : List UInt8} (h : formL (bodyL l) = some (w, p)) (h2 : valL w p ≤ mostI) (h3 : negL l = true) : parV l = -valL w p ∧ parE l = 0 := by
  unfold parV parE; rw [h]; dsimp only; rw [if_pos h2, if_pos h2, if_pos h3]; exact ⟨rfl, rfl⟩
theorem par_pos {l w p : List UInt8} (h : formL (bodyL l) = some (w, p)) (h2 : valL w p ≤ mostI) (h3 : negL l = false) : parV l = valL w p ∧ parE l = 0 := by
  unfold parV parE; rw [h]; dsimp only; rw [if_pos h2, if_pos h2, if_neg (by simp [h3])]; exact ⟨rfl, rfl⟩
theorem trim_body (l : List UInt8) : Lib.trimPrefix l [45] = bodyL l ∧ Lib.hasPrefix l [45] = negL l := by
  have h : Lib.hasPrefix l [45] = negL l := by
    unfold Lib.hasPrefix negL
    cases l with
    | nil => rfl
    | cons c t =>
      rw [List.isPrefixOf_cons_cons]
      simp [Bool.beq_comm]
  refine ⟨?_, h⟩
  unfold Lib.trimPrefix bodyL
  rw [h]
  split
  · cases l <;> rfl
  · rfl
theorem allB_iff {l : List UInt8} : allB l = true ↔ (∀ c ∈ l, isDg c = true) ∧ l ≠ [] := by
  unfold allB
  rw [Bool.and_eq_true, List.all_eq_true]
  cases l <;> simp
theorem ext_left (b : ByteArray) (n : Nat) : (b.extract 0 n).data.toList = b.data.toList.take n := by
  rw [ByteArray.data_extract, Array.toList_extract]
  simp [List.extract]
theorem ext_right (b : ByteArray) (n : Nat) : (b.extract n b.size).data.toList = b.data.toList.drop n := by
  rw [ByteArray.data_extract, Array.toList_extract]
  simp only [List.extract]
  rw [List.take_of_length_le (by simp)]
theorem valL_pos {w p : List UInt8} (hw : ∀ c ∈ w, isDg c = true) (hp : ∀ c ∈ p, isDg c = true) : 0 ≤ valL w p := by
  have e1 := numL_pos (digsL w p) fun c hc => (List.mem_append.1 hc).elim (hw c) (p4_dg hp c)
  have e2 := upL_bd p
  unfold valL
  omega
theorem retVE {a b a' b' : Int} (h : a' = a ∧ b' = b) : Ending.returned (.tuple #[.int .i64 a, .int .i64 b]) = .returned (.tuple #[.int .i64 a', .int .i64 b']) := by rw [h.1, h.2]
set_option maxRecDepth 100000 in
set_option maxHeartbeats 1600000 in
theorem parse_any (s : ByteArray) (hs : s.size ≤ 2000) (w : World) :
    Calls Tryz.prog 192 #[.string s] w fun e w' => e = .returned (.tuple #[.int .i64 (parV s.data.toList), .int .i64 (parE s.data.toList)]) ∧ Below w.heap.size w w' := by
  obtain ⟨t1, t2⟩ := trim_body s.data.toList
  have HT1 := Lib.hid t1
  have HT2 := Lib.hid t2
  have HBL : Hid ((bodyL s.data.toList).length ≤ 2000) := by
    unfold Hid bodyL
    have : s.data.toList.length = s.size := by simp
    split
    · rw [List.length_tail]; omega
    · omega
  clear t1 t2
  have HPN := Lib.hid (par_none (l := s.data.toList))
  have HPF := Lib.hid (fun w p => par_far (l := s.data.toList) (w := w) (p := p))
  have HPM := Lib.hid (fun w p => par_neg (l := s.data.toList) (w := w) (p := p))
  have HPP := Lib.hid (fun w p => par_pos (l := s.data.toList) (w := w) (p := p))
  generalize bodyL s.data.toList = bl at *
  generalize negL s.data.toList = neg at *
  generalize parV s.data.toList = rV at *
  generalize parE s.data.toList = rE at *
  go_enter Tryz.func192, Tryz.ntmps192
  go_wp2_with fail
  refine (Tryz.strings_CutPrefix s ⟨#[45]⟩ _).mono ?_
  rintro e w1 ⟨rfl, hw1⟩
  subst w1
  rw [show (⟨#[45]⟩ : ByteArray).data.toList = [45] from rfl, HT1.out, HT2.out]
  clear HT1 HT2
  obtain ⟨b, hb⟩ : ∃ b : ByteArray, b.data.toList = bl := ⟨⟨bl.toArray⟩, by simp⟩
  have hbs : b.size ≤ 2000 := by have := HBL.out; rw [← hb] at this; simpa using this
  rw [show (⟨bl.toArray⟩ : ByteArray) = b by rw [← hb]]
  subst hb
  clear HBL
  go_wp2_with fail
  refine (cutD_any b hbs _).mono ?_
  rintro e w1 ⟨rfl, q, rfl⟩
  have HBB : Hid (∀ w', Below (w.drewN q).heap.size (w.drewN q) w' → Below w.heap.size w w') := fun w' h => ⟨h.os, h.tape, h.output, h.size, h.block⟩
  generalize w.drewN q = w0 at *
  by_cases hd : dotP b.data.toList < b.size
  · obtain ⟨d1, d2, d3⟩ := dotP_at b.data.toList
    have hbl : b.data.toList.length = b.size := by simp
    have d3 := d3 (by omega)
    generalize hn : dotP b.data.toList = n at *
    have hsp : b.data.toList = b.data.toList.take n ++ 46 :: b.data.toList.drop (n + 1) := by
      have h1 := List.take_append_drop n b.data.toList
      rw [List.drop_eq_getElem_cons (by omega)] at h1
      rw [List.getElem?_eq_getElem (by omega)] at d3
      rw [Option.some.inj d3] at h1
      exact h1.symm
    have hnd : ∀ c ∈ b.data.toList.take n, c ≠ 46 := by
      intro c hc e
      subst e
      obtain ⟨j, hj, he⟩ := List.mem_iff_getElem.1 hc
      rw [List.length_take] at hj
      rw [List.getElem_take] at he
      exact d2 j (by omega) (by rw [List.getElem?_eq_getElem (by omega), he])
    have hf := form_at (p := b.data.toList.drop (n + 1)) hnd
    rw [← hsp] at hf
    have HC := Lib.hid (cutD_yes hn hd)
    have e1 := ext_left b n
    have e2 := ext_right b (n + 1)
    have s1 : (b.extract 0 n).size ≤ 2000 := by rw [← ByteArray.size_data, ← Array.length_toList, e1, List.length_take]; omega
    have s2 : (b.extract (n + 1) b.size).size ≤ 2000 := by rw [← ByteArray.size_data, ← Array.length_toList, e2, List.length_drop]; omega
    rw [← e1, ← e2] at hf
    rw [HC.out]
    have HF := Lib.hid hf
    clear HC e1 e2 hf hsp hnd d1 d2 d3 hbl hn hd
    generalize b.extract 0 n = x at *
    generalize b.extract (n + 1) b.size = y at *
    generalize b.data.toList = bl at *
    go_wp2_with fail
    refine (allDigits_any x (by unfold maxLen; omega) _).mono ?_
    rintro e w1 ⟨rfl, rfl⟩
    cases hx : allB x.data.toList
    · have HN := Lib.hid (HPN.out (by rw [HF.out, hx]; rfl))
      clear hx
      go_wp2_with fail
      go_ret2
      exact ⟨retVE HN.out, HBB.out _ (Below.refl _ _)⟩
    · have HX := Lib.hid hx
      clear hx
      go_wp2_with fail
      refine (allDigits_any y (by unfold maxLen; omega) _).mono ?_
      rintro e w1 ⟨rfl, rfl⟩
      cases hy : allB y.data.toList
      · have HN := Lib.hid (HPN.out (by rw [HF.out, HX.out, hy]; rfl))
        clear hy
        go_wp2_with fail
        go_ret2
        exact ⟨retVE HN.out, HBB.out _ (Below.refl _ _)⟩
      · have HS := Lib.hid (HF.out.trans (by rw [HX.out, hy, Bool.and_true, if_pos rfl]))
        have hdx := (allB_iff.1 HX.out).1
        have hdy := (allB_iff.1 hy).1
        have hp := valL_pos hdx hdy
        have HDX := Lib.hid hdx
        have HDY := Lib.hid hdy
        clear hy hdx hdy HX HF
        go_wp2_with fail
        refine (scaled_any x y (by unfold maxLen; omega) HDX.out HDY.out _).mono ?_
        rintro e w1 ⟨⟨m, rfl, hm⟩, hB⟩
        have HB := Lib.hid hB
        clear hB
        by_cases hv : valL x.data.toList y.data.toList ≤ mostI
        · obtain rfl := hm hv
          have HM := Lib.hid (HPM.out _ _ HS.out hv)
          have HP := Lib.hid (HPP.out _ _ HS.out hv)
          rw [decide_eq_true hv]
          have hv2 : valL x.data.toList y.data.toList ≤ 9223372036854775807 := hv
          clear hv hm
          generalize valL x.data.toList y.data.toList = v at *
          cases neg
          · have HP2 := Lib.hid (HP.out rfl)
            clear HM HP
            go_wp2_with fail
            go_ret2
            exact ⟨retVE HP2.out, HBB.out _ HB.out⟩
          · have HP2 := Lib.hid (HM.out rfl)
            clear HM HP
            go_wp2_with fail
            go_ret2
            exact ⟨retVE HP2.out, HBB.out _ HB.out⟩
        · have HN := Lib.hid (HPF.out _ _ HS.out (by omega))
          rw [decide_eq_false hv]
          clear hv hm
          go_wp2_with fail
          go_ret2
          exact ⟨retVE HN.out, HBB.out _ HB.out⟩
  · obtain ⟨d1, d2, d3⟩ := dotP_at b.data.toList
    have hbl : b.data.toList.length = b.size := by simp
    have hnd : ∀ c ∈ b.data.toList, c ≠ 46 := by
      intro c hc e
      subst e
      obtain ⟨j, hj, he⟩ := List.mem_iff_getElem.1 hc
      exact d2 j (by omega) (by rw [List.getElem?_eq_getElem hj, he])
    have hf := form_no hnd
    have HC := Lib.hid (cutD_no hd)
    rw [HC.out]
    have HF := Lib.hid hf
    clear HC hf hnd d1 d2 d3 hbl hd
    go_wp2_with fail
    refine (allDigits_any b (by unfold maxLen; omega) _).mono ?_
    rintro e w1 ⟨rfl, rfl⟩
    cases hx : allB b.data.toList
    · have HN := Lib.hid (HPN.out (by rw [HF.out, hx]; rfl))
      clear hx
      go_wp2_with fail
      go_ret2
      exact ⟨retVE HN.out, HBB.out _ (Below.refl _ _)⟩
    · have HS := Lib.hid (HF.out.trans (by rw [hx, if_pos rfl]))
      have hdx := (allB_iff.1 hx).1
      have hdy : ∀ c ∈ (⟨#[]⟩ : ByteArray).data.toList, isDg c = true := fun c hc => by cases hc
      have hp := valL_pos hdx hdy
      have HDX := Lib.hid hdx
      have HDY := Lib.hid hdy
      clear hx hdx hdy HF
      go_wp2_with fail
      refine (scaled_any b ⟨#[]⟩ (by unfold maxLen; omega) HDX.out HDY.out _).mono ?_
      rintro e w1 ⟨⟨m, rfl, hm⟩, hB⟩
      have HB := Lib.hid hB
      clear hB
      rw [show (⟨#[]⟩ : ByteArray).data.toList = [] from rfl] at *
      by_cases hv : valL b.data.toList [] ≤ mostI
      · obtain rfl := hm hv
        have HM := Lib.hid (HPM.out _ _ HS.out hv)
        have HP := Lib.hid (HPP.out _ _ HS.out hv)
        rw [decide_eq_true hv]
        have hv2 : valL b.data.toList [] ≤ 9223372036854775807 := hv
        clear hv hm
        generalize valL b.data.toList [] = v at *
        cases neg
        · have HP2 := Lib.hid (HP.out rfl)
          clear HM HP
          go_wp2_with fail
          go_ret2
          exact ⟨retVE HP2.out, HBB.out _ HB.out⟩
        · have HP2 := Lib.hid (HM.out rfl)
          clear HM HP
          go_wp2_with fail
          go_ret2
          exact ⟨retVE HP2.out, HBB.out _ HB.out⟩
      · have HN := Lib.hid (HPF.out _ _ HS.out (by omega))
        rw [decide_eq_false hv]
        clear hv hm
        go_wp2_with fail
        go_ret2
        exact ⟨retVE HN.out, HBB.out _ HB.out⟩
end Go.Proofs.YtfjefanhkbcfgaaGreatDoor.Tx
