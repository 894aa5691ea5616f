/- The contracts of the specification's Digits and Format. -/
import Derived.Test.YtoeodfbmiiefkaaGreatDoorTxtE
namespace Go.Proofs.YtoeodfbmiiefkaaGreatDoor.Tx
open Go.RowKit
theorem dd_step {n : Nat} (h : 9 < n) : Lib.decDigits n = Lib.decDigits (n / 10) ++ [dgt (n % 10)] := by
  rw [Lib.decDigits, dif_neg (by omega)]; rfl
theorem dd_last {n : Nat} (h : ¬ 9 < n) : Lib.decDigits n = [dgt n] := by
  rw [Lib.decDigits, dif_pos (by omega)]; rfl
theorem dgt_int' {x : Nat} (h : x < 10) : (48 : Int) + (x : Int) = ((dgt x).toNat : Int) := by rw [dgt_nat h]; omega
theorem conv_one (w : World) (c : UInt8) (cap : Nat) (b : Nat) (h : w.cell? ⟨b, 0, none⟩ = some (.int .u8 (c.toNat : Int))) :
    (convert 57 9 (.slice (some ⟨b, 0, none⟩) 1 cap)).run Tryz.prog w = .ok (.string ⟨[c].toArray⟩) w :=
  run_convert_bytes_back (P := Tryz.prog) w 57 9 5 ⟨b, 0, none⟩ cap [c] Tryz.underlying57 Tryz.underlying5 Tryz.underlying9 (fun j hj => by
    have h0 : j = 0 := by simpa using hj
    subst h0
    rw [Lib.add_plain]
    exact h)
set_option maxRecDepth 100000 in
set_option maxHeartbeats 1600000 in
theorem rdigits_any (u : Nat) (hu : u < 18446744073709551616) (w : World) :
    Calls Tryz.prog 26 #[.int .u64 (u : Int)] w fun e w' => e = .returned (.string ⟨(Lib.decDigits u).toArray⟩) ∧ Below w.heap.size w w' := by
  have HDL := Lib.hid (dd_len hu)
  go_enter Tryz.func26, Tryz.ntmps26
  go_wp2_with fail
  go_loopw [0, 3] (fun x s wr => ∃ (n : Nat) (S : ByteArray), n ≤ u ∧ x = .int .u64 (n : Int) ∧ s = .string S ∧ Hid (Lib.decDigits u = Lib.decDigits n ++ S.data.toList) ∧ Below w.heap.size w wr) (fun x _ _ => (intOf x).toNat)
  case atStart => exact ⟨u, ⟨#[]⟩, Nat.le_refl _, rfl, rfl, by unfold Hid; simp, Below.refl _ _⟩
  case round =>
    obtain ⟨n, S, hn, rfl, rfl, HS, hBr⟩ := hrel
    have HBr := Lib.hid hBr
    have hSs : S.size ≤ 20 := by
      have h1 := congrArg List.length HS.out
      rw [List.length_append] at h1
      have h2 := HDL.out
      have h3 : S.data.toList.length = S.size := by simp
      omega
    clear hBr
    by_cases h9 : 9 < n
    · have HN : Hid (Lib.decDigits u = Lib.decDigits (n / 10) ++ ([dgt (n % 10)] ++ S.data.toList)) := by unfold Hid; rw [HS.out, dd_step h9, List.append_assoc]
      have HD := Lib.hid (dgt_int n)
      have HQ : Hid ((n : Int) / 10 = ((n / 10 : Nat) : Int)) := by unfold Hid; omega
      have hql : n / 10 < n := by omega
      have hcv := conv_one (wr.alloc (.cells #[.int .u8 (48 + (n : Int) % 10)] 5)) (dgt (n % 10)) 1 wr.heap.size (by rw [HD.out]; simp)
      go_wp2_with fail
      rw [HQ.out]
      exact ⟨⟨n / 10, _, by omega, rfl, rfl, by unfold Hid; rw [HN.out, ba_app], HBr.out.alloc HBr.out.size _⟩, by simp [intOf]; omega⟩
    · have HN : Hid (Lib.decDigits u = [dgt n] ++ S.data.toList) := by unfold Hid; rw [HS.out, dd_last h9]
      have HD := Lib.hid (dgt_int' (x := n) (by omega))
      have hcv := conv_one (wr.alloc (.cells #[.int .u8 (48 + (n : Int))] 5)) (dgt n) 1 wr.heap.size (by rw [HD.out]; simp)
      go_wp2_with fail
      go_ret
      exact ⟨retS (by rw [HN.out, ba_app]), HBr.out.alloc HBr.out.size _⟩
theorem dd_tenk {r : Nat} (h : r < 10000) : Lib.decDigits (10000 + r) = 49 :: frD r := by
  rw [dd_step (by omega), dd_step (n := (10000 + r) / 10) (by omega), dd_step (n := (10000 + r) / 10 / 10) (by omega), dd_step (n := (10000 + r) / 10 / 10 / 10) (by omega), dd_last (by omega)]
  rw [show (10000 + r) / 10 / 10 / 10 / 10 = 1 by omega, show (10000 + r) / 10 / 10 / 10 % 10 = r / 1000 % 10 by omega, show (10000 + r) / 10 / 10 % 10 = r / 100 % 10 by omega, show (10000 + r) / 10 % 10 = r / 10 % 10 by omega, show (10000 + r) % 10 = r % 10 by omega]
  rfl
theorem trimZ_snoc (l : List UInt8) : trimZ (l ++ [48]) = trimZ l := by
  unfold trimZ
  rw [List.reverse_append, List.reverse_singleton, List.singleton_append, List.dropWhile_cons_of_pos (by decide)]
theorem trimZ_stop (l : List UInt8) (c : UInt8) (h : c ≠ 48) : trimZ (l ++ [c]) = l ++ [c] := by
  unfold trimZ
  rw [List.reverse_append, List.reverse_singleton, List.singleton_append, List.dropWhile_cons_of_neg (by simpa using h)]
  simp
theorem ext_snoc {s : ByteArray} {k : Nat} (h : k < s.size) (hk : s.size = k + 1) : s.data.toList = (s.extract 0 k).data.toList ++ [s[k]] := by
  rw [ext_left]
  have hl : s.data.toList.length = k + 1 := by rw [← hk]; simp
  have h1 := List.take_append_drop k s.data.toList
  rw [List.drop_eq_getElem_cons (by omega), List.drop_of_length_le (by omega)] at h1
  exact h1.symm
set_option maxRecDepth 100000 in
set_option maxHeartbeats 1600000 in
theorem rformat_any (a : Int) (ha : InI a) (w : World) :
    Calls Tryz.prog 11 #[.int .i64 a] w fun e w' => e = .returned (.string ⟨(fmtL a).toArray⟩) ∧ Below w.heap.size w w' := by
  have HA := Lib.hid ha
  have HAE := Lib.hid (abs_eq ha).1
  have hab := (abs_eq ha).2
  have HFM : Hid (fmtL a = (if a < 0 then [45] else []) ++ (Lib.decDigits (a.natAbs / 10000) ++ fracL (a.natAbs % 10000))) := rfl
  have hqb : a.natAbs / 10000 < 18446744073709551616 := by omega
  have HDL := Lib.hid (dd_len hqb)
  have HFU := Lib.hid (fun w => rdigits_any (a.natAbs / 10000) hqb w)
  have hrb : a.natAbs % 10000 < 10000 := by omega
  have HRD := Lib.hid (fun w => rdigits_any (10000 + a.natAbs % 10000) (by omega) w)
  rw [dd_tenk hrb] at HRD
  have hq : (a.natAbs : Int) / 10000 = ((a.natAbs / 10000 : Nat) : Int) := by omega
  have hr : (a.natAbs : Int) % 10000 = ((a.natAbs % 10000 : Nat) : Int) := by omega
  have HRE : Hid (((10000 + a.natAbs % 10000 : Nat) : Int) = 10000 + ((a.natAbs % 10000 : Nat) : Int)) := by unfold Hid; omega
  clear ha
  generalize fmtL a = FL at *
  generalize Lib.decDigits (a.natAbs / 10000) = D at *
  generalize a.natAbs / 10000 = q at *
  generalize a.natAbs % 10000 = r at *
  rw [HRE.out] at HRD
  generalize a.natAbs = m at *
  obtain ⟨B, hB⟩ : ∃ B : ByteArray, B = ⟨D.toArray⟩ := ⟨_, rfl⟩
  have HBD : Hid (B.data.toList = D) := by unfold Hid; rw [hB]
  have hBs : B.size ≤ 20 := by rw [hB]; exact HDL.out
  rw [← hB] at HFU
  clear hB
  obtain ⟨P, hP⟩ : ∃ P : ByteArray, P = ⟨(49 :: frD r).toArray⟩ := ⟨_, rfl⟩
  have HPL : Hid ((P.extract 1 P.size).data.toList = frD r) := by unfold Hid; rw [ext_right, hP]; rfl
  have hPs : P.size = 5 := by rw [hP]; rfl
  have hP1 : 1 ≤ P.size := by omega
  have hPx : (P.extract 1 P.size).size ≤ 4 := by simp; omega
  rw [← hP] at HRD
  clear hP hPs
  go_enter Tryz.func11, Tryz.ntmps11
  go_wp2_with fail
  refine (rsize_any a HA.out _).mono ?_
  rintro e w1 ⟨rfl, rfl⟩
  rw [HAE.out]
  go_wp2_with fail
  refine (HFU.out _).mono ?_
  rintro e w1 ⟨rfl, hB1⟩
  have HB1 := Lib.hid hB1
  clear hB1 hq
  by_cases h : a < 0
  · skip
    rw [if_pos h] at HFM
    by_cases h0 : r = 0
    · subst h0
      go_wp2_with fail
      go_ret
      exact ⟨retS (by rw [HFM.out, ba_app, HBD.out]; simp [fracL]), HB1.out⟩
    · have HFR : Hid (fracL r = 46 :: trimZ (frD r)) := if_neg h0
      have HNE := Lib.hid (trimZ_ne (frD_nz hrb h0))
      have h0' : (r : Int) ≠ 0 := by omega
      go_wp2_with fail
      refine (HRD.out _).mono ?_
      rintro e w2 ⟨rfl, hB2⟩
      have HB2 := Lib.hid (bnext HB1.out hB2)
      clear hB2
      go_wp2_with fail
      go_loopw [6] (fun x wr => ∃ S : ByteArray, S.size ≤ 4 ∧ x = .string S ∧ Hid (trimZ S.data.toList = trimZ (frD r)) ∧ Below w.heap.size w wr) (fun x _ => match x with | .string S => S.size | _ => 0)
      case atStart => exact ⟨_, hPx, rfl, by unfold Hid; rw [HPL.out], HB2.out⟩
      case round =>
        obtain ⟨S, hS4, rfl, HTZ, hBr⟩ := hrel
        have HBr := Lib.hid hBr
        clear hBr
        have hpos : 0 < S.size := by
          rcases Nat.eq_zero_or_pos S.size with h | h
          · exfalso
            have hl : S.data.toList.length = S.size := by simp
            rw [h] at hl
            apply HNE.out
            rw [← HTZ.out, List.length_eq_zero_iff.1 hl]; rfl
          · exact h
        obtain ⟨k, hk⟩ : ∃ k, S.size = k + 1 := ⟨S.size - 1, by omega⟩
        have hkl : k < S.size := by omega
        have HSN := Lib.hid (ext_snoc hkl hk)
        have hsz : (S.size : Int) - 1 = (k : Int) := by omega
        have hex : (S.extract 0 k).size = k := by simp; omega
        have HK := Lib.hid hk
        clear hk hpos
        by_cases hc : 48 = S[k].toNat
        · have hc2 : ((S[k].toNat : Int) == 48) = true := by simp; omega
          have hc3 : S[k] = 48 := UInt8.toNat_inj.1 hc.symm
          have HT2 : Hid (trimZ (S.extract 0 k).data.toList = trimZ (frD r)) := by
            have := HTZ.out
            rw [HSN.out, hc3, trimZ_snoc] at this
            exact this
          have HEX := Lib.hid hex
          clear hc hc3 hex
          go_wp2_with fail
          exact ⟨⟨_, by rw [HEX.out]; omega, rfl, HT2.out, HBr.out⟩, by show (S.extract 0 k).size < S.size; rw [HEX.out]; exact hkl⟩
        · have hc2 : ((S[k].toNat : Int) == 48) = false := by simp; omega
          have HT2 : Hid (S.data.toList = trimZ (frD r)) := by
            have := HTZ.out
            rw [HSN.out, trimZ_stop _ _ (fun e => hc (by rw [e]; rfl)), ← HSN.out] at this
            exact this
          clear hc hex
          go_wp2_with fail
          go_ret
          exact ⟨retS (by rw [HFM.out, HFR.out, ba_app, ba_app, ba_app, HBD.out, HT2.out]; simp), HBr.out⟩
  · skip
    rw [if_neg h] at HFM
    by_cases h0 : r = 0
    · subst h0
      go_wp2_with fail
      go_ret
      exact ⟨retS (by rw [HFM.out, HBD.out]; simp [fracL]), HB1.out⟩
    · have HFR : Hid (fracL r = 46 :: trimZ (frD r)) := if_neg h0
      have HNE := Lib.hid (trimZ_ne (frD_nz hrb h0))
      have h0' : (r : Int) ≠ 0 := by omega
      go_wp2_with fail
      refine (HRD.out _).mono ?_
      rintro e w2 ⟨rfl, hB2⟩
      have HB2 := Lib.hid (bnext HB1.out hB2)
      clear hB2
      go_wp2_with fail
      go_loopw [6] (fun x wr => ∃ S : ByteArray, S.size ≤ 4 ∧ x = .string S ∧ Hid (trimZ S.data.toList = trimZ (frD r)) ∧ Below w.heap.size w wr) (fun x _ => match x with | .string S => S.size | _ => 0)
      case atStart => exact ⟨_, hPx, rfl, by unfold Hid; rw [HPL.out], HB2.out⟩
      case round =>
        obtain ⟨S, hS4, rfl, HTZ, hBr⟩ := hrel
        have HBr := Lib.hid hBr
        clear hBr
        have hpos : 0 < S.size := by
          rcases Nat.eq_zero_or_pos S.size with h | h
          · exfalso
            have hl : S.data.toList.length = S.size := by simp
            rw [h] at hl
            apply HNE.out
            rw [← HTZ.out, List.length_eq_zero_iff.1 hl]; rfl
          · exact h
        obtain ⟨k, hk⟩ : ∃ k, S.size = k + 1 := ⟨S.size - 1, by omega⟩
        have hkl : k < S.size := by omega
        have HSN := Lib.hid (ext_snoc hkl hk)
        have hsz : (S.size : Int) - 1 = (k : Int) := by omega
        have hex : (S.extract 0 k).size = k := by simp; omega
        have HK := Lib.hid hk
        clear hk hpos
        by_cases hc : 48 = S[k].toNat
        · have hc2 : ((S[k].toNat : Int) == 48) = true := by simp; omega
          have hc3 : S[k] = 48 := UInt8.toNat_inj.1 hc.symm
          have HT2 : Hid (trimZ (S.extract 0 k).data.toList = trimZ (frD r)) := by
            have := HTZ.out
            rw [HSN.out, hc3, trimZ_snoc] at this
            exact this
          have HEX := Lib.hid hex
          clear hc hc3 hex
          go_wp2_with fail
          exact ⟨⟨_, by rw [HEX.out]; omega, rfl, HT2.out, HBr.out⟩, by show (S.extract 0 k).size < S.size; rw [HEX.out]; exact hkl⟩
        · have hc2 : ((S[k].toNat : Int) == 48) = false := by simp; omega
          have HT2 : Hid (S.data.toList = trimZ (frD r)) := by
            have := HTZ.out
            rw [HSN.out, trimZ_stop _ _ (fun e => hc (by rw [e]; rfl)), ← HSN.out] at this
            exact this
          clear hc hex
          go_wp2_with fail
          go_ret
          exact ⟨retS (by rw [HFM.out, HFR.out, ba_app, ba_app, HBD.out, HT2.out]; simp), HBr.out⟩
end Go.Proofs.YtoeodfbmiiefkaaGreatDoor.Tx
