/- The specification's digits and Format. -/
import Derived.Test.YtelanmknimapoaaGreatDoorGfB
namespace Go.Proofs.YtelanmknimapoaaGreatDoor.Gf
open Go Go.RowKit
set_option linter.unusedVariables false
set_option linter.unusedSimpArgs false
theorem enc_ascii (k : Nat) (h : k < 128) : Utf8.encode (k : Int) = ⟨#[UInt8.ofNat k]⟩ := by
  have hv : Utf8.valid (k : Int) = true := by unfold Utf8.valid; simp; omega
  unfold Utf8.encode
  simp only [hv, if_true, Int.toNat_natCast]
  rw [if_pos (by omega)]
set_option maxRecDepth 100000 in
set_option maxHeartbeats 1600000 in
theorem digits_any (k : Nat) (h : k < 64) (w : World) : Calls Tryz.prog 55 #[.int .i64 (k : Int)] w fun e w' => e = .returned (.string ⟨(dg k).toArray⟩) ∧ w = w' := by
  by_cases h1 : k < 10
  · have HD := Lib.hid (dg_1 h1)
    have HE := Lib.hid (enc_ascii (48 + k) (by omega))
    obtain ⟨z, hz⟩ : ∃ z : Int, z = k := ⟨_, rfl⟩
    have HZ : Hid (((48 + k : Nat) : Int) = 48 + z) := by unfold Hid; omega
    rw [HZ.out] at HE
    rw [← hz]
    have h2 : z < 10 := by omega
    have h3 : 0 ≤ z := by omega
    clear hz h1 h
    go_enter Tryz.func55, Tryz.ntmps55
    go_wp2_with fail
    go_ret
    refine ⟨?_, rfl⟩
    rw [HD.out]
    exact congrArg _ (congrArg _ HE.out)
  · have HD := Lib.hid (dg_2 h1 (by omega))
    have HE1 := enc_ascii (48 + k / 10) (by omega)
    have HE2 := enc_ascii (48 + k % 10) (by omega)
    obtain ⟨z, hz⟩ : ∃ z : Int, z = k := ⟨_, rfl⟩
    have HZ1 : ((48 + k / 10 : Nat) : Int) = 48 + z / 10 := by omega
    have HZ2 : ((48 + k % 10 : Nat) : Int) = 48 + z % 10 := by omega
    rw [HZ1] at HE1
    rw [HZ2] at HE2
    generalize UInt8.ofNat (48 + k / 10) = A at *
    generalize UInt8.ofNat (48 + k % 10) = B at *
    rw [← hz]
    have hd : decide (z < 10) = false := decide_eq_false (by omega)
    have h64 : z < 64 := by omega
    have h0 : 0 ≤ z := by omega
    have hadd := fun W => str_cat [A] [B] W (by simp)
    clear hz h1 h HZ1 HZ2
    go_enter Tryz.func55, Tryz.ntmps55
    go_wp2_with fail
    go_ret
    refine ⟨?_, rfl⟩
    rw [HD.out]
    rfl
theorem str_cat3 (a b c : By) (W : World) (hc : c = a ++ b) (h : a.length + b.length ≤ 100000) : (Op.stringOp .add ⟨a.toArray⟩ ⟨b.toArray⟩).run Tryz.prog W = .ok (.string ⟨c.toArray⟩) W := by
  subst hc; exact str_cat a b W h
theorem has_nat (x : W64) (k : Nat) : hasB x (k : Int) = x.getLsbD k := by
  rcases Nat.lt_or_ge k 64 with h | h
  · exact hasB_in x k h
  · unfold hasB
    rw [vld_f (by omega), getL_big x h]; rfl
theorem W_mem {x : W64} {u : Nat} {V : List By} (h : V ++ W x u = W x 0) : V.length ≤ 64 ∧ ∀ w ∈ V, w ≠ [] ∧ w.length ≤ 5 := by
  constructor
  · have h1 := W_len x 64 0
    have h2 := congrArg List.length h
    rw [List.length_append] at h2
    unfold W at h2
    omega
  · intro w hw
    have := W_word x 0 w (by rw [← h]; exact List.mem_append_left _ hw)
    exact ⟨this.1, this.2.1⟩
theorem fmtS_gen {x : W64} (h0 : x ≠ 0#64) (h1 : x ≠ BitVec.allOnes 64) : fmtS x = Lib.join (W x 0) [44] := by
  unfold fmtS; rw [if_neg h0, if_neg h1]
theorem toNat_ne {x : W64} (h0 : x ≠ 0#64) : ¬ (x.toNat : Int) = 0 := fun h => h0 (by apply BitVec.eq_of_toNat_eq; simp; omega)
theorem toNat_ne1 {x : W64} (h0 : x ≠ BitVec.allOnes 64) : ¬ (x.toNat : Int) = 18446744073709551615 := fun h => h0 (by apply BitVec.eq_of_toNat_eq; rw [show (BitVec.allOnes 64).toNat = 18446744073709551615 by decide]; omega)
set_option maxRecDepth 100000 in
set_option maxHeartbeats 6400000 in
theorem sfmt_any (x : W64) (w : World) : Calls Tryz.prog 30 #[.int .u64 (x.toNat : Int)] w fun e w' => e = .returned (.string ⟨(fmtS x).toArray⟩) ∧ w = w' := by
  have HALL := Lib.hid (fun W => sall_in 64 (by omega) W)
  have ha : ((allW 64).toNat : Int) = 18446744073709551615 := by decide +kernel
  rw [ha] at HALL
  clear ha
  by_cases h0 : x = 0#64
  · subst h0
    go_enter Tryz.func30, Tryz.ntmps30
    go_wp2_with fail
    refine (HALL.out _).mono ?_
    rintro e w1 ⟨rfl, rfl⟩
    go_wp2_with fail
    go_ret
    exact ⟨rfl, rfl⟩
  by_cases h1 : x = BitVec.allOnes 64
  · subst h1
    go_enter Tryz.func30, Tryz.ntmps30
    go_wp2_with fail
    refine (HALL.out _).mono ?_
    rintro e w1 ⟨rfl, rfl⟩
    go_wp2_with fail
    go_ret
    exact ⟨rfl, rfl⟩
  have HF := Lib.hid (fmtS_gen h0 h1)
  have e1 := toNat_ne h0
  have e2 := toNat_ne1 h1
  have HHS := Lib.hid (fun (k : Nat) W => shas_any x (k : Int) W)
  have HHN := Lib.hid (fun k => has_nat x k)
  have HDG := Lib.hid digits_any
  obtain ⟨X, hX⟩ : ∃ X : Int, (x.toNat : Int) = X := ⟨_, rfl⟩
  rw [hX] at e1 e2 HHS ⊢
  have b1 : (X == 0) = false := by simpa using e1
  have b2 : (X == 18446744073709551615) = false := by simpa using e2
  clear hX h0 h1
  go_enter Tryz.func30, Tryz.ntmps30
  go_wp2_with fail
  refine (HALL.out _).mono ?_
  rintro e w1 ⟨rfl, rfl⟩
  go_wp2_with fail
  go_loop [5, 6] (fun s z => ∃ (u : Nat) (V : List By), u ≤ 64 ∧ z = .int .i64 (u : Int) ∧ s = .string ⟨(Lib.join V [44]).toArray⟩ ∧ Hid (V ++ W x u = W x 0)) (fun _ z => 64 - (intOf z).toNat)
  case atStart => exact ⟨0, [], Nat.zero_le _, rfl, rfl, rfl⟩
  case round =>
    obtain ⟨u, V, hu, rfl, rfl, HV⟩ := hrel
    by_cases hlt : u < 64
    · obtain ⟨q, hq⟩ : ∃ q, x.getLsbD u = q := ⟨_, rfl⟩
      cases q
      · have HN := Lib.hid (W_not hq)
        have HQ := Lib.hid hq
        generalize hJ : Lib.join V [44] = J at *
        have HJ := Lib.hid hJ
        clear hq hJ
        go_wp2_with fail
        refine (HHS.out u _).mono ?_
        rw [HHN.out, HQ.out]
        rintro e w' ⟨rfl, rfl⟩
        go_wp2_with fail
        go_round
        case rel => exact ⟨u + 1, V, by omega, by go_num, by rw [HJ.out], by rw [← HN.out]; exact HV.out⟩
        case measure => simp [intOf]; omega
      · have HQ := Lib.hid hq
        have HJL : Hid ((Lib.join V [44]).length ≤ 384) := by
          have h1 := W_mem HV.out
          have h2 := join_len V (fun w hw => (h1.2 w hw).2)
          unfold Hid; omega
        have HVE : Hid (V = [] ∨ (V ≠ [] ∧ Lib.join V [44] ≠ [])) := by
          by_cases hv : V = []
          · exact .inl hv
          · exact .inr ⟨hv, join_ne V hv (fun w hw => ((W_mem HV.out).2 w hw).1)⟩
        generalize hJ : Lib.join V [44] = J at *
        have HJ := Lib.hid hJ
        clear hq hJ
        go_wp2_with fail
        refine (HHS.out u _).mono ?_
        rw [HHN.out, HQ.out]
        rintro e w' ⟨rfl, rfl⟩
        go_wp2_with fail
        go_loop [7] (fun z => ∃ m : Nat, u ≤ m ∧ m < 64 ∧ z = .int .i64 (m : Int) ∧ Hid (eo x (m + 1) = eo x u)) (fun z => 64 - (intOf z).toNat)
        case atStart => exact ⟨u, Nat.le_refl _, hlt, rfl, (eo_t HQ.out).symm⟩
        case round =>
          obtain ⟨m, hum, hm, rfl, HM⟩ := hrel
          obtain ⟨q, hq⟩ : ∃ q, x.getLsbD (m + 1) = q := ⟨_, rfl⟩
          have HQM := Lib.hid hq
          clear hq
          have ec : (m : Int) + 1 = ((m + 1 : Nat) : Int) := by omega
          have EC := Lib.hid ec
          clear ec
          go_wp2_with fail
          rw [EC.out]
          refine (HHS.out (m + 1) _).mono ?_
          rw [HHN.out, HQM.out]
          rintro e w' ⟨rfl, rfl⟩
          cases q
          · have HE : Hid (eo x u = m + 1) := by unfold Hid; rw [← HM.out, eo_f HQM.out]
            rcases HVE.out with hv0 | ⟨hvn, hjn⟩
            · obtain rfl : J = [] := by rw [← HJ.out, hv0]; exact Lib.join_nil _
              have HV0 := Lib.hid hv0
              clear hv0
              by_cases h2 : 2 ≤ m - u
              · have HW : Hid (V ++ [dg u ++ 45 :: dg m] ++ W x (m + 1) = W x 0) := by
                  have h3 := W_run HQ.out (by rw [HE.out]; omega)
                  rw [HE.out, show m + 1 - 1 = m by omega] at h3
                  have h4 := HV.out
                  rw [h3] at h4
                  unfold Hid; rw [← h4]; simp
                have la := dg_len (k := u) (by omega)
                have lb := dg_len (k := m) (by omega)
                have HDU := Lib.hid (HDG.out u (by omega))
                have HDM := Lib.hid (HDG.out m (by omega))
                generalize dg u = A at *
                generalize dg m = B at *
                obtain ⟨K1, hK1⟩ : ∃ K1, K1 = [] ++ A := ⟨_, rfl⟩
                obtain ⟨K2, hK2⟩ : ∃ K2, K2 = K1 ++ [45] := ⟨_, rfl⟩
                obtain ⟨K3, hK3⟩ : ∃ K3, K3 = K2 ++ B := ⟨_, rfl⟩
                have l1 : K1.length ≤ 390 := by rw [hK1]; simp; omega
                have l2 : K2.length ≤ 395 := by rw [hK2]; simp; omega
                have hadd1 := fun W => str_cat3 [] A K1 W hK1 (by (try simp); (try omega))
                have hadd2 := fun W => str_cat3 K1 [45] K2 W hK2 (by (try simp); (try omega))
                have hadd3 := fun W => str_cat3 K2 B K3 W hK3 (by omega)
                have HK1 := Lib.hid hK1
                have HK2 := Lib.hid hK2
                have HK3 := Lib.hid hK3
                clear hK1 hK2 hK3
                have hd : decide ((m : Int) - (u : Int) < 2) = false := decide_eq_false (by omega)
                go_wp2_with fail
                refine (HDU.out _).mono ?_
                rintro e w2 ⟨rfl, rfl⟩
                go_wp2_with fail
                refine (HDM.out _).mono ?_
                rintro e w2 ⟨rfl, rfl⟩
                go_wp2_with fail
                go_round
                case rel => exact ⟨m + 1, V ++ [A ++ 45 :: B], by omega, by go_num, by rw [HV0.out, HK3.out, HK2.out, HK1.out]; simp [Lib.join_one], HW.out⟩
                case measure => simp [intOf]; omega
              · have HW : Hid (V ++ [dg u] ++ W x (u + 1) = W x 0) := by
                  have h3 := W_one HQ.out (by rw [HE.out]; omega)
                  have h4 := HV.out
                  rw [h3] at h4
                  unfold Hid; rw [← h4]; simp
                have la := dg_len (k := u) (by omega)
                have HDU := Lib.hid (HDG.out u (by omega))
                generalize dg u = A at *
                obtain ⟨K1, hK1⟩ : ∃ K1, K1 = [] ++ A := ⟨_, rfl⟩
                have hadd1 := fun W => str_cat3 [] A K1 W hK1 (by (try simp); (try omega))
                have HK1 := Lib.hid hK1
                clear hK1
                have hd : decide ((m : Int) - (u : Int) < 2) = true := decide_eq_true (by omega)
                go_wp2_with fail
                refine (HDU.out _).mono ?_
                rintro e w2 ⟨rfl, rfl⟩
                go_wp2_with fail
                go_round
                case rel => exact ⟨u + 1, V ++ [A], by omega, by go_num, by rw [HV0.out, HK1.out]; simp [Lib.join_one], HW.out⟩
                case measure => simp [intOf]; omega
            · have n2 : J.isEmpty = false := by
                cases J with
                | nil => exact absurd rfl hjn
                | cons c r => rfl
              have HVN := Lib.hid hvn
              clear hvn hjn
              obtain ⟨K0, hK0⟩ : ∃ K0, K0 = J ++ [44] := ⟨_, rfl⟩
              have HK0 := Lib.hid hK0
              have l0 : K0.length ≤ 385 := by rw [hK0]; have := HJL.out; simp; omega
              have hadd0 := fun W => str_cat3 J [44] K0 W hK0 (by have := HJL.out; simp; omega)
              clear hK0
              by_cases h2 : 2 ≤ m - u
              · have HW : Hid (V ++ [dg u ++ 45 :: dg m] ++ W x (m + 1) = W x 0) := by
                  have h3 := W_run HQ.out (by rw [HE.out]; omega)
                  rw [HE.out, show m + 1 - 1 = m by omega] at h3
                  have h4 := HV.out
                  rw [h3] at h4
                  unfold Hid; rw [← h4]; simp
                have HJS := Lib.hid (join_snoc V (dg u ++ 45 :: dg m) HVN.out)
                have la := dg_len (k := u) (by omega)
                have lb := dg_len (k := m) (by omega)
                have HDU := Lib.hid (HDG.out u (by omega))
                have HDM := Lib.hid (HDG.out m (by omega))
                generalize dg u = A at *
                generalize dg m = B at *
                obtain ⟨K1, hK1⟩ : ∃ K1, K1 = K0 ++ A := ⟨_, rfl⟩
                obtain ⟨K2, hK2⟩ : ∃ K2, K2 = K1 ++ [45] := ⟨_, rfl⟩
                obtain ⟨K3, hK3⟩ : ∃ K3, K3 = K2 ++ B := ⟨_, rfl⟩
                have l1 : K1.length ≤ 390 := by rw [hK1]; simp; omega
                have l2 : K2.length ≤ 395 := by rw [hK2]; simp; omega
                have hadd1 := fun W => str_cat3 K0 A K1 W hK1 (by (try simp); (try omega))
                have hadd2 := fun W => str_cat3 K1 [45] K2 W hK2 (by (try simp); (try omega))
                have hadd3 := fun W => str_cat3 K2 B K3 W hK3 (by omega)
                have HK1 := Lib.hid hK1
                have HK2 := Lib.hid hK2
                have HK3 := Lib.hid hK3
                clear hK1 hK2 hK3
                have hd : decide ((m : Int) - (u : Int) < 2) = false := decide_eq_false (by omega)
                go_wp2_with fail
                refine (HDU.out _).mono ?_
                rintro e w2 ⟨rfl, rfl⟩
                go_wp2_with fail
                refine (HDM.out _).mono ?_
                rintro e w2 ⟨rfl, rfl⟩
                go_wp2_with fail
                go_round
                case rel => exact ⟨m + 1, V ++ [A ++ 45 :: B], by omega, by go_num, by rw [HJS.out, HJ.out, HK3.out, HK2.out, HK1.out, HK0.out]; simp, HW.out⟩
                case measure => simp [intOf]; omega
              · have HW : Hid (V ++ [dg u] ++ W x (u + 1) = W x 0) := by
                  have h3 := W_one HQ.out (by rw [HE.out]; omega)
                  have h4 := HV.out
                  rw [h3] at h4
                  unfold Hid; rw [← h4]; simp
                have HJS := Lib.hid (join_snoc V (dg u) HVN.out)
                have la := dg_len (k := u) (by omega)
                have HDU := Lib.hid (HDG.out u (by omega))
                generalize dg u = A at *
                obtain ⟨K1, hK1⟩ : ∃ K1, K1 = K0 ++ A := ⟨_, rfl⟩
                have hadd1 := fun W => str_cat3 K0 A K1 W hK1 (by (try simp); (try omega))
                have HK1 := Lib.hid hK1
                clear hK1
                have hd : decide ((m : Int) - (u : Int) < 2) = true := decide_eq_true (by omega)
                go_wp2_with fail
                refine (HDU.out _).mono ?_
                rintro e w2 ⟨rfl, rfl⟩
                go_wp2_with fail
                go_round
                case rel => exact ⟨u + 1, V ++ [A], by omega, by go_num, by rw [HJS.out, HJ.out, HK1.out, HK0.out], HW.out⟩
                case measure => simp [intOf]; omega
          · have hm1 : m + 1 < 64 := lt_of_in HQM.out
            go_wp2_with fail
            go_round
            case rel => exact ⟨m + 1, by omega, hm1, by rw [EC.out], by rw [← eo_t HQM.out]; exact HM.out⟩
            case measure => simp [intOf]; omega
    · obtain rfl : u = 64 := by omega
      have HW : Hid (V = W x 0) := by have := HV.out; rw [W_end x (Nat.le_refl _), List.append_nil] at this; exact this
      go_wp2_with fail
      go_ret
      exact ⟨by rw [HF.out, ← HW.out]; rfl, rfl⟩
end Go.Proofs.YtelanmknimapoaaGreatDoor.Gf
