/- The law TreeEquals. -/
import Derived.Test.YtkigjoaoggafeaaDoorNdC
import Derived.Test.YtkigjoaoggafeaaDoorNdD
import Derived.Test.YtkigjoaoggafeaaDoorTreX
namespace Go.Proofs.YtkigjoaoggafeaaDoor.Nd
open Go Go.RowKit
set_option linter.unusedVariables false
set_option linter.unusedSimpArgs false
theorem own_cap {B : Nat} {w : World} {a : Option Addr} {n c : Nat} {L : List ND} (h : OwnND B w (.slice a n c) L) : n ≤ c := by
  have hl := h.1
  rcases h.2 with ⟨hv, h0⟩ | ⟨g, cap, cur, hv, hg, hh, hc, hcm, hsz, hx⟩
  · injection hv with h1 h2 h3; omega
  · injection hv with h1 h2 h3; omega
theorem teq_any (a a' : Option Addr) (n n' cap cap' : Nat) (A B : List ND) (hn : n ≤ 1000000) (hn' : n' ≤ 1000000) (w : World) (h1 : IsND w a n A) (h2 : IsND w a' n' B) :
    Calls Tryd.prog 22 #[.slice a n cap, .slice a' n' cap'] w fun e w' => e = .returned (.bool (eqN A B)) ∧ Below w.heap.size w w' := by
  have HC := Lib.hid (geq_any a a' n n' cap cap' A B hn hn' w h1 h2)
  generalize eqN A B = r at *
  clear h1 h2
  go_enter Tryd.func22, Tryd.ntmps22
  go_wp2_with fail
  refine HC.out.mono ?_
  rintro e w1 ⟨rfl, hB⟩
  have HB := Lib.hid hB
  clear hB
  go_wp2_with fail
  go_ret
  exact ⟨rfl, HB.out⟩
set_option maxHeartbeats 3200000 in
theorem treeEquals_any (a a' : Option Addr) (n n' cap cap' : Nat) (L M : List ND) (hc : n ≤ cap) (hc' : n' ≤ cap') (w : World) (hL : IsND w a n L) (hM : IsND w a' n' M) (hv : ∀ v ∈ L, v.vt.size ≤ maxLen) (hv' : ∀ v ∈ M, v.vt.size ≤ maxLen) (hT : Tr.Tb w) :
    Calls Tryd.prog 5 #[.slice a n cap, .slice a' n' cap'] w fun e w' => e = .returned (.bool true) ∧ Below w.heap.size w w' := by
  have HL := Lib.hid hL
  have HM := Lib.hid hM
  have HV := Lib.hid hv
  have HV' := Lib.hid hv'
  have HT := Lib.hid hT
  clear hL hM hv hv' hT
  go_enter Tryd.func5, Tryd.ntmps5
  go_wp2_with fail
  refine (few_any a n cap L hc _ HL.out HV.out).mono ?_
  rintro e w1 ⟨⟨v, rfl, hO⟩, hB⟩
  have HB1 := Lib.hid hB
  obtain ⟨va, vc, rfl, hI⟩ := hO.isOf cellsND_len
  have hcv := own_cap hO
  have HA : Hid (fewL (fewL L) = fewL L) := fewL_twice L
  have HAs : Hid (∀ v ∈ fewL L, v.vt.size ≤ maxLen) := fun v h => Nat.le_trans (fewL_sz h) (by decide)
  have hAl : (fewL L).length ≤ 300 := by rw [fewL_len]; omega
  generalize hAe : fewL L = A at *
  have HI1 := Lib.hid hI
  obtain ⟨na, hna⟩ : ∃ na, A.length = na := ⟨_, rfl⟩
  rw [hna] at hcv hAl HI1
  try rw [hna]
  clear hO hI hB
  go_wp2_with fail
  refine (few_any a' n' cap' M hc' _ (IsOf.later HM.out HB1.out) HV'.out).mono ?_
  rintro e w2 ⟨⟨v, rfl, hO⟩, hB⟩
  have HB2 := Lib.hid (HB1.out.trans (hB.mono HB1.out.size))
  have HI2 := Lib.hid (IsOf.later HI1.out hB)
  obtain ⟨ua, uc, rfl, hI⟩ := hO.isOf cellsND_len
  have hBl : (fewL M).length ≤ 300 := by rw [fewL_len]; omega
  generalize fewL M = B at *
  have HJ2 := Lib.hid hI
  obtain ⟨nb, hnb⟩ : ∃ nb, B.length = nb := ⟨_, rfl⟩
  rw [hnb] at hBl HJ2
  try rw [hnb]
  clear hO hI hB HI1
  go_wp2_with fail
  refine (teq_any va ua na nb vc uc A B (by omega) (by omega) _ HI2.out HJ2.out).mono ?_
  rintro e w3 ⟨rfl, hB⟩
  have HB3 := Lib.hid (HB2.out.trans (hB.mono HB2.out.size))
  have HI3 := Lib.hid (IsOf.later HI2.out hB)
  have HJ3 := Lib.hid (IsOf.later HJ2.out hB)
  clear hB HI2 HJ2
  go_wp2_with fail
  refine (keq_any va ua na nb vc uc A B (by omega) (by omega) _ HI3.out HJ3.out).mono ?_
  rintro e w4 ⟨rfl, hB⟩
  have HB4 := Lib.hid (HB3.out.trans (hB.mono HB3.out.size))
  have HI4 := Lib.hid (IsOf.later HI3.out hB)
  clear hB HI3 HJ3
  generalize eqN A B = r at *
  go_wp2_with fail
  refine (few_any va na vc A hcv _ HI4.out HAs.out).mono ?_
  rintro e w5 ⟨⟨v, rfl, hO⟩, hB⟩
  have HB5 := Lib.hid (HB4.out.trans (hB.mono HB4.out.size))
  have HI5 := Lib.hid (IsOf.later HI4.out hB)
  rw [HA.out] at hO
  obtain ⟨ya, yc, rfl, hI⟩ := hO.isOf cellsND_len
  rw [hna] at hI
  rw [hna]
  have HJ5 := Lib.hid hI
  clear hO hI hB HI4
  go_wp2_with fail
  refine (teq_any va ya na na vc yc A A (by omega) (by omega) _ HI5.out HJ5.out).mono ?_
  rintro e w6 ⟨rfl, hB⟩
  have HB6 := Lib.hid (HB5.out.trans (hB.mono HB5.out.size))
  rw [eqN_self]
  clear hB HI5 HJ5
  go_wp2_with fail
  refine (Tr.awake08 _ (Tr.Tb.later HT.out HB6.out)).mono ?_
  rintro e w7 ⟨rfl, hB⟩
  have HB7 := Lib.hid (HB6.out.trans (hB.mono HB6.out.size))
  clear hB
  go_wp2_with fail
  go_ret
  exact ⟨rfl, HB7.out⟩
theorem treeEquals_law (a : Option Addr) (n cap : Nat) (z : List NDV) (a' : Option Addr) (n' cap' : Nat) (z' : List NDV) (w : World) (hL : IsOf cellsNV 11 w a n z) (hM : IsOf cellsNV 11 w a' n' z') (hc : n ≤ cap) (hc' : n' ≤ cap') (hl : laidMetH Tryd.prog Rows.treeEqualsRow.laid w) :
    Calls Tryd.prog 5 #[.slice a n cap, .slice a' n' cap'] w fun e w' => e = .returned (.bool true) ∧ Below w.heap.size w w' :=
  treeEquals_any a a' n n' cap cap' (ndL z) (ndL z') hc hc' w (isN_of hL) (isN_of hM) (fun v h => (ndL_ok h).vt) (fun v h => (ndL_ok h).vt) (Tr.tb_of (MakeChecks.laidMetH_plain _ _ _ (by kernel_rfl)) hl)
end Go.Proofs.YtkigjoaoggafeaaDoor.Nd
