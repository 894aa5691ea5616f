/- A run in segments: EnLead. -/
import Derived.Test.YtbblephlijbehaaGreatDoorEn0
import Derived.Test.YtbblephlijbehaaGreatDoorEn1
import Derived.Test.YtbblephlijbehaaGreatDoorEn2
import Derived.Test.YtbblephlijbehaaGreatDoorEn3
import Derived.Test.YtbblephlijbehaaGreatDoorEn4
import Derived.Test.YtbblephlijbehaaGreatDoorEn5
import Derived.KernelRfl
namespace Go.Proofs.YtbblephlijbehaaGreatDoor.En
open Go Go.RowKit Sx
set_option linter.unusedVariables false
set_option maxRecDepth 100000
noncomputable def eaHe1 : Hp := R.rec (motive := fun _ => Hp) eaH1_16 (fun _ hp => hp) (xrun Tryz.prog eaG 10000000 eaS1 [] eaT1_16 eaM1_16 eaH1_16)
theorem ea_end1 : xrun Tryz.prog eaG 10000000 eaS1 [] eaT1_16 eaM1_16 eaH1_16 = .ok ((.tuple ⟨[(.slice (some ⟨7284, 0, none⟩) 255 9223372036854775808), (vi 0), (vi 0)]⟩)) eaHe1 := by kernel_rfl
theorem ea_lead1 : Lead Tryz.prog eaG eaS1 [] [.code eaB1] (T.setList eaA1 .leaf 0) eaH0_0 ((.tuple ⟨[(.slice (some ⟨7284, 0, none⟩) 255 9223372036854775808), (vi 0), (vi 0)]⟩)) eaHe1 :=
  lead_seg ea_reg 10000000 14200 [1, 2, 3, 4, 5, 6, 7, 10, 11, 12, 13, 14, 15, 16, 17, 632, 633, 648, 0, 8, 9] ea_seg1_0
  (lead_seg ea_reg 10000000 6200 [1, 2, 3, 4, 5, 6, 7, 10, 11, 12, 13, 14, 15, 16, 17, 1304, 1305, 1316, 0, 8, 9] ea_seg1_1
  (lead_seg ea_reg 10000000 6200 [1, 2, 3, 4, 5, 6, 7, 10, 11, 12, 13, 14, 15, 16, 17, 1976, 1977, 0, 8, 9] ea_seg1_2
  (lead_seg ea_reg 10000000 6000 [1, 2, 3, 4, 5, 6, 7, 10, 11, 12, 13, 14, 15, 16, 17, 2620, 2621, 0, 8, 9] ea_seg1_3
  (lead_seg ea_reg 10000000 6000 [1, 2, 3, 4, 5, 6, 7, 10, 11, 12, 13, 14, 15, 16, 17, 3264, 3265, 0, 8, 9] ea_seg1_4
  (lead_seg ea_reg 10000000 5000 [1, 2, 3, 4, 5, 6, 7, 10, 11, 12, 13, 14, 15, 16, 17, 3802, 3803, 3804, 0, 8, 9] ea_seg1_5
  (lead_seg ea_reg 10000000 3800 [1, 2, 3, 4, 5, 6, 7, 10, 11, 12, 13, 14, 15, 16, 17, 4208, 4209, 4210, 4223, 0, 8, 9] ea_seg1_6
  (lead_seg ea_reg 10000000 3000 [1, 2, 3, 4, 5, 6, 7, 10, 11, 12, 13, 14, 15, 16, 17, 4556, 4557, 4558, 0, 8, 9] ea_seg1_7
  (lead_seg ea_reg 10000000 3200 [1, 2, 3, 4, 5, 6, 7, 10, 11, 12, 13, 14, 15, 16, 17, 4904, 4905, 4906, 0, 8, 9] ea_seg1_8
  (lead_seg ea_reg 10000000 3000 [1, 2, 3, 4, 5, 6, 7, 10, 11, 12, 13, 14, 15, 16, 17, 5223, 5224, 5225, 5238, 0, 8, 9] ea_seg1_9
  (lead_seg ea_reg 10000000 2800 [1, 2, 3, 4, 5, 6, 7, 10, 11, 12, 13, 14, 15, 16, 17, 5542, 5543, 5544, 5553, 0, 8, 9] ea_seg1_10
  (lead_seg ea_reg 10000000 2600 [1, 2, 3, 4, 5, 6, 7, 10, 11, 12, 13, 14, 15, 16, 17, 5832, 5833, 5834, 5843, 0, 8, 9] ea_seg1_11
  (lead_seg ea_reg 10000000 2600 [1, 2, 3, 4, 5, 6, 7, 10, 11, 12, 13, 14, 15, 16, 17, 6122, 6123, 6124, 0, 8, 9] ea_seg1_12
  (lead_seg ea_reg 10000000 2600 [1, 2, 3, 4, 5, 6, 7, 10, 11, 12, 13, 14, 15, 16, 17, 6412, 6413, 6414, 0, 8, 9] ea_seg1_13
  (lead_seg ea_reg 10000000 2400 [1, 2, 3, 4, 5, 6, 7, 10, 11, 12, 13, 14, 15, 16, 17, 6673, 6674, 6675, 6684, 0, 8, 9] ea_seg1_14
  (lead_seg ea_reg 10000000 2400 [1, 2, 3, 4, 5, 6, 7, 10, 11, 12, 13, 14, 15, 16, 17, 6934, 6935, 6936, 6947, 0, 8, 9] ea_seg1_15
  (lead_seg ea_reg 10000000 2000 [1, 2, 3, 4, 5, 6, 7, 10, 11, 12, 13, 14, 15, 16, 17, 7166, 7167, 7168, 0, 8, 9] ea_seg1_16
  (lead_end ea_reg 10000000 ea_end1)))))))))))))))))
noncomputable def eaT0_b : List AItem := [.ops (opsA (cAt [1, 0] eaB0)) ((opsA (cAt [1, 0] eaB0)).toList.drop 2), .code (cAt [1, 1] eaB0)]
noncomputable def eaM0_b : T Value := (nd (.string ⟨⟨List.replicate 255 61⟩⟩) (nn (lf (.pointer (some ⟨13, 0, none⟩))) (nn (lf (.string ⟨⟨List.replicate 255 61⟩⟩)) ee)) (nd (.pointer (some ⟨12, 0, none⟩)) (lf (.pointer (some ⟨14, 0, none⟩))) (nn (.node (some (.tuple ⟨[(.slice (some ⟨7284, 0, none⟩) 255 9223372036854775808), (vi 0), (vi 0)]⟩)) ee ee) ee)))
theorem ea_end0 : gives (xrun Tryz.prog eaG 10000000 eaS0 [] eaT0_b eaM0_b eaHe1) ((.tuple ⟨[(.slice none 0 0), (vi 0), (vi 4)]⟩)) = true := by kernel_rfl
noncomputable def eaO : Oper := List.head ((opsA (cAt [1, 0] eaB0)).toList.drop 1) (List.isEmpty_eq_false_iff.1 (by kernel_rfl))
theorem ea_call {v : Value} {hp : Hp} (h : Lead Tryz.prog eaG eaS0 [] eaT0_b eaM0_b eaHe1 v hp) : Lead Tryz.prog eaG eaS0 [] eaT0_0 eaM0_0 eaH0_0 v hp := by
  have e : eaT0_0 = .ops (opsA (cAt [1, 0] eaB0)) (eaO :: (opsA (cAt [1, 0] eaB0)).toList.drop 2) :: [.code (cAt [1, 1] eaB0)] := by kernel_rfl
  rw [e]
  exact lead_call (tm0 := T.setList eaA1 .leaf 0) (todo0 := [.code eaB1]) (S0 := eaS1) (v := (.tuple ⟨[(.slice (some ⟨7284, 0, none⟩) 255 9223372036854775808), (vi 0), (vi 0)]⟩)) (hp1 := eaHe1) (tm1 := eaM0_b) ea_reg (fun nest run => by kernel_rfl) (fun K => by kernel_rfl) (by kernel_rfl) ea_lead1 h
theorem ea_lead : ∃ hp', Lead Tryz.prog eaG eaS0 [] [.code eaB0] (T.setList eaA0 .leaf 0) (tabsHp 12 nmL) ((.tuple ⟨[(.slice none 0 0), (vi 0), (vi 4)]⟩)) hp' ∧ hp'.wr = [] := by
  obtain ⟨hp, h1, h2⟩ := lead_gives (P := Tryz.prog) (G := eaG) ea_reg 10000000 ea_end0
  have hc : Lead Tryz.prog eaG eaS0 [] eaT0_0 eaM0_0 eaH0_0 ((.tuple ⟨[(.slice none 0 0), (vi 0), (vi 4)]⟩)) hp := ea_call h1
  exact ⟨hp, lead_seg ea_reg 10000000 9 [1, 2, 3, 4, 5, 6, 7, 10, 11, 12, 13, 14, 0, 8, 9] ea_seg0_0 (hc), h2⟩

end Go.Proofs.YtbblephlijbehaaGreatDoor.En
