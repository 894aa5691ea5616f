/- The contract of the specification's Parse. -/
import Derived.Test.YtbkbikkieabcmaaDoorGfM
namespace Go.Proofs.YtbkbikkieabcmaaDoor.Gf
open Go Go.RowKit
set_option linter.unusedVariables false
set_option linter.unusedSimpArgs false
def scK (S : By) (k : Nat) (fr n : Int) (x : W64) : Option W64 := if k ≤ S.length then sc (S.drop k) fr n x else some x
theorem scK_end {S : By} {fr n : Int} {x : W64} : scK S (S.length + 1) fr n x = some x := if_neg (by omega)
theorem scK_at {s : ByteArray} {k : Nat} (h : k < s.size) (fr n : Int) (x : W64) : scK s.data.toList k fr n x = sc (s[k] :: s.data.toList.drop (k + 1)) fr n x := by
  unfold scK
  have hz : s.data.toList.length = s.size := Array.length_toList
  rw [if_pos (by omega), List.drop_eq_getElem_cons (by omega)]
  rfl
theorem scK_next {s : ByteArray} {k : Nat} (h : k < s.size) (fr n : Int) (x : W64) : scK s.data.toList (k + 1) fr n x = sc (s.data.toList.drop (k + 1)) fr n x := by
  unfold scK
  have hz : s.data.toList.length = s.size := Array.length_toList
  rw [if_pos (by omega)]
theorem scK_last {s : ByteArray} (fr n : Int) (x : W64) : scK s.data.toList s.size fr n x = if n < 0 then none else some (rgI fr n x) := by
  unfold scK
  have hz : s.data.toList.length = s.size := Array.length_toList
  rw [if_pos (by omega), List.drop_of_length_le (by omega)]
  rfl
theorem beq_no {s : ByteArray} {c : UInt8} (h : s.data.toList ≠ [c]) : (s.toList == [c]) = false := beq_list s c h
theorem pzV_pz {s : By} {x : W64} {e : Int} (h : pzS s = (x, e)) : pzV s = .tuple #[.int .u64 (x.toNat : Int), .int .i64 e] := by unfold pzV; rw [h]
theorem pzV_bad {s : By} (h : pzS s = (0#64, 4)) : pzV s = .tuple #[.int .u64 0, .int .i64 4] := by unfold pzV; rw [h]; rfl
theorem pzV_star : pzV [42] = .tuple #[.int .u64 ((allW 64).toNat : Int), .int .i64 0] := by rw [pzV_pz pzS_star, show BitVec.allOnes 64 = allW 64 by decide +kernel]
theorem pzV_dash : pzV [45] = .tuple #[.int .u64 0, .int .i64 0] := by rw [pzV_pz pzS_dash]; rfl
set_option maxRecDepth 100000 in
set_option maxHeartbeats 6400000 in
theorem sparse_any (s : ByteArray) (hs : s.size ≤ 400) (w : World) : Calls Tryd.prog 18 #[.string s] w fun e w' => e = .returned (pzV s.data.toList) ∧ w = w' := by
  have HALL := Lib.hid (fun W => sall_in 64 (by omega) W)
  by_cases h1 : s.data.toList = [42]
  · obtain rfl : s = ⟨#[42]⟩ := by apply ByteArray.ext; apply Array.toList_inj.1; exact h1
    go_enter Tryd.func18, Tryd.ntmps18
    go_wp2_with fail
    refine (HALL.out _).mono ?_
    rintro e w1 ⟨rfl, rfl⟩
    go_wp2_with fail
    go_ret2
    exact ⟨congrArg Ending.returned pzV_star.symm, rfl⟩
  by_cases h2 : s.data.toList = [45]
  · obtain rfl : s = ⟨#[45]⟩ := by apply ByteArray.ext; apply Array.toList_inj.1; exact h2
    go_enter Tryd.func18, Tryd.ntmps18
    go_wp2_with fail
    refine (HALL.out _).mono ?_
    rintro e w1 ⟨rfl, rfl⟩
    go_wp2_with fail
    go_ret2
    exact ⟨congrArg Ending.returned pzV_dash.symm, rfl⟩
  have b1 := beq_no h1
  have b2 := beq_no h2
  have HBAD := Lib.hid (fun h => pzV_bad (pzS_none h1 h2 h))
  have HNE := Lib.hid (fun x h hn => pzV_bad (pzS_ne (x := x) h1 h2 h hn))
  have HEQ := Lib.hid (fun x (hn : fmtS x = s.data.toList) => pzV_pz (pzS_eq hn))
  have HDT := Lib.hid (fun k h => @scK_at s k h)
  have HNX := Lib.hid (fun k h => @scK_next s k h)
  have HLS := Lib.hid (@scK_last s)
  have HST : Hid (sc s.data.toList (-1) (-1) 0#64 = scK s.data.toList 0 (-1) (-1) 0#64) := rfl
  have HEN : Hid (∀ fr n x, scK s.data.toList (s.size + 1) fr n x = some x) := fun fr n x => by
    have hz : s.data.toList.length = s.size := Array.length_toList
    rw [← hz]; exact scK_end
  obtain ⟨S, hS⟩ : ∃ S, S = s.data.toList := ⟨_, rfl⟩
  rw [← hS] at HBAD HNE HEQ HDT HNX HLS HST HEN ⊢
  have HS := Lib.hid hS
  clear hS h1 h2
  obtain ⟨n0, hn0⟩ : ∃ n0, n0 = s.size := ⟨_, rfl⟩
  have HN0 := Lib.hid hn0
  go_enter Tryd.func18, Tryd.ntmps18
  go_wp2_with fail
  refine (HALL.out _).mono ?_
  rintro e w1 ⟨rfl, rfl⟩
  go_wp2_with fail
  go_loop [6, 7, 8, 9] (fun z f n i => ∃ (k : Nat) (fr nn : Int) (x : W64), k ≤ s.size + 1 ∧ i = .int .i64 (k : Int) ∧ f = .int .i64 fr ∧ n = .int .i64 nn ∧ z = .int .u64 (x.toNat : Int) ∧ -1 ≤ fr ∧ fr < 64 ∧ -1 ≤ nn ∧ nn < 64 ∧ Hid (sc S (-1) (-1) 0#64 = scK S k fr nn x)) (fun _ _ _ i => s.size + 1 - (intOf i).toNat)
  case atStart => exact ⟨0, -1, -1, 0#64, by omega, rfl, rfl, rfl, rfl, by decide, by decide, by decide, by decide, HST.out⟩
  case round =>
    obtain ⟨k, fr, n, x, hk, rfl, rfl, rfl, rfl, f0, f1, n1, n2, HX⟩ := hrel
    by_cases hlt : k < s.size
    · have HA := Lib.hid (HDT.out k hlt fr n x)
      have HB := Lib.hid (HNX.out k hlt)
      by_cases hd : 48 ≤ s[k].toNat ∧ s[k].toNat ≤ 57
      · have HD := Lib.hid hd
        obtain ⟨d1, d2⟩ := hd
        obtain ⟨m, hm⟩ : ∃ m, m = max n 0 * 10 + ((s[k].toNat : Int) - 48) := ⟨_, rfl⟩
        have HM := Lib.hid hm.symm
        cases hv : vld m
        · have HBA : Hid (sc S (-1) (-1) 0#64 = none) := by unfold Hid; rw [HX.out, HA.out]; exact sc_bad HD.out HM.out hv
          have HR := Lib.hid (HBAD.out HBA.out)
          have HV := Lib.hid hv
          clear hv
          go_wp2_with fail
          rw [HM.out]
          refine (suser_any _ _).mono ?_
          rintro e w' ⟨rfl, rfl⟩
          rw [HV.out]
          go_wp2_with fail
          go_ret2
          exact ⟨congrArg Ending.returned HR.out.symm, rfl⟩
        · have HOK : Hid (sc S (-1) (-1) 0#64 = scK S (k + 1) fr m x) := by unfold Hid; rw [HX.out, HA.out, HB.out]; exact sc_digit HD.out HM.out hv
          have hm2 : 0 ≤ m ∧ m < 64 := of_decide_eq_true hv
          have HM2 := Lib.hid hm2
          have HV := Lib.hid hv
          clear hv hm2
          go_wp2_with fail
          rw [HM.out]
          refine (suser_any _ _).mono ?_
          rintro e w' ⟨rfl, rfl⟩
          rw [HV.out]
          go_wp2_with fail
          go_round
          case rel => exact ⟨k + 1, fr, m, x, by omega, by go_num, rfl, by rw [HM.out], rfl, f0, f1, by have := HM2.out; omega, HM2.out.2, HOK.out⟩
          case measure => simp [intOf]; omega
      · have HD := Lib.hid hd
        have hdd : 48 ≤ s[k].toNat → ¬ s[k].toNat ≤ 57 := fun h1 h2 => hd ⟨h1, h2⟩
        clear hd
        by_cases hn : n < 0
        · have HBA : Hid (sc S (-1) (-1) 0#64 = none) := by unfold Hid; rw [HX.out, HA.out]; exact sc_neg HD.out hn
          have HR := Lib.hid (HBAD.out HBA.out)
          by_cases h48 : 48 ≤ s[k].toNat
          all_goals
            go_wp2_with fail
            go_ret2
            exact ⟨congrArg Ending.returned HR.out.symm, rfl⟩
        · by_cases h45 : s[k].toNat = 45
          · have HOK : Hid (sc S (-1) (-1) 0#64 = scK S (k + 1) n (-1) x) := by unfold Hid; rw [HX.out, HA.out, HB.out]; exact sc_dash h45 hn
            have h45i : (s[k].toNat : Int) = 45 := by omega
            go_wp2_with fail
            go_round
            case rel => exact ⟨k + 1, n, -1, x, by omega, by go_num, rfl, rfl, rfl, n1, n2, by decide, by decide, HOK.out⟩
            case measure => simp [intOf]; omega
          · by_cases h44 : s[k].toNat = 44
            · have h44i : (s[k].toNat : Int) = 44 := by omega
              obtain ⟨ln, rfl⟩ : ∃ ln : Nat, n = ln := ⟨n.toNat, by omega⟩
              by_cases hf : fr < 0
              · obtain rfl : fr = -1 := by omega
                have HOK := Lib.hid ((HX.out.trans (HA.out.trans ((sc_comma h44 hn).trans (HB.out _ _ _).symm))))
                rw [rgI_one] at HOK
                go_wp2_with fail
                go_loop [6, 10] (fun z i => ∃ j : Nat, j ≤ ln + 1 - ln ∧ i = .int .i64 ((ln + j : Nat) : Int) ∧ z = .int .u64 ((rngW x ln j).toNat : Int)) (fun _ i => ln + 1 - (intOf i).toNat)
                case atStart => exact ⟨0, Nat.zero_le _, by simp, rfl⟩
                case round =>
                  obtain ⟨j, hj, rfl, rfl⟩ := hrel
                  by_cases hjl : j < ln + 1 - ln
                  · have HNX := Lib.hid (rngW_succ x ln j)
                    generalize rngW x ln j = y at *
                    obtain ⟨q, hq⟩ : ∃ q, q = ln + j := ⟨_, rfl⟩
                    rw [← hq] at HNX ⊢
                    have hq64 : q < 64 := by omega
                    have hql : q ≤ ln := by omega
                    have HQ : Hid ((q : Int) + 1 = ((ln + (j + 1) : Nat) : Int)) := by unfold Hid; omega
                    clear hq
                    go_wp2_with fail
                    refine (sbit_any q hq64 _).mono ?_
                    rintro e w' ⟨rfl, rfl⟩
                    go_wp2_with fail
                    go_round
                    case rel => exact ⟨j + 1, by omega, by rw [← HQ.out], by rw [HNX.out, ← bits_or]⟩
                    case measure => simp [intOf] <;> omega
                  · obtain rfl : j = ln + 1 - ln := by omega
                    have hge : ln < ln + (ln + 1 - ln) := by omega
                    generalize hfj : ln + (ln + 1 - ln) = fj at *
                    clear hfj
                    go_wp2_with fail
                    go_round
                    case rel => exact ⟨k + 1, -1, -1, _, by omega, by go_num, rfl, rfl, rfl, by decide, by decide, by decide, by decide, HOK.out⟩
                    case measure => simp [intOf] <;> omega
              · obtain ⟨fn, rfl⟩ : ∃ fn : Nat, fr = fn := ⟨fr.toNat, by omega⟩
                have HOK := Lib.hid ((HX.out.trans (HA.out.trans ((sc_comma h44 hn).trans (HB.out _ _ _).symm))))
                rw [rgI_run] at HOK
                go_wp2_with fail
                go_loop [6, 10] (fun z i => ∃ j : Nat, j ≤ ln + 1 - fn ∧ i = .int .i64 ((fn + j : Nat) : Int) ∧ z = .int .u64 ((rngW x fn j).toNat : Int)) (fun _ i => ln + 1 - (intOf i).toNat)
                case atStart => exact ⟨0, Nat.zero_le _, by simp, rfl⟩
                case round =>
                  obtain ⟨j, hj, rfl, rfl⟩ := hrel
                  by_cases hjl : j < ln + 1 - fn
                  · have HNX := Lib.hid (rngW_succ x fn j)
                    generalize rngW x fn j = y at *
                    obtain ⟨q, hq⟩ : ∃ q, q = fn + j := ⟨_, rfl⟩
                    rw [← hq] at HNX ⊢
                    have hq64 : q < 64 := by omega
                    have hql : q ≤ ln := by omega
                    have HQ : Hid ((q : Int) + 1 = ((fn + (j + 1) : Nat) : Int)) := by unfold Hid; omega
                    clear hq
                    go_wp2_with fail
                    refine (sbit_any q hq64 _).mono ?_
                    rintro e w' ⟨rfl, rfl⟩
                    go_wp2_with fail
                    go_round
                    case rel => exact ⟨j + 1, by omega, by rw [← HQ.out], by rw [HNX.out, ← bits_or]⟩
                    case measure => simp [intOf] <;> omega
                  · obtain rfl : j = ln + 1 - fn := by omega
                    have hge : ln < fn + (ln + 1 - fn) := by omega
                    generalize hfj : fn + (ln + 1 - fn) = fj at *
                    clear hfj
                    go_wp2_with fail
                    go_round
                    case rel => exact ⟨k + 1, -1, -1, _, by omega, by go_num, rfl, rfl, rfl, by decide, by decide, by decide, by decide, HOK.out⟩
                    case measure => simp [intOf] <;> omega
            · have HBA : Hid (sc S (-1) (-1) 0#64 = none) := by unfold Hid; rw [HX.out, HA.out]; exact sc_else HD.out h44 h45
              have HR := Lib.hid (HBAD.out HBA.out)
              have e44 : ((s[k].toNat : Int) != 44) = true := by simp; omega
              have e45 : ((s[k].toNat : Int) == 45) = false := by simp; omega
              by_cases h48 : 48 ≤ s[k].toNat
              all_goals
                go_wp2_with fail
                go_ret2
                exact ⟨congrArg Ending.returned HR.out.symm, rfl⟩
    · by_cases he : k = s.size
      · subst he
        have HL := Lib.hid (HX.out.trans (HLS.out _ _ _))
        by_cases hn : n < 0
        · have HR := Lib.hid (HBAD.out (HL.out.trans (if_pos hn)))
          go_wp2_with fail
          go_ret2
          exact ⟨congrArg Ending.returned HR.out.symm, rfl⟩
        · obtain ⟨ln, rfl⟩ : ∃ ln : Nat, n = ln := ⟨n.toNat, by omega⟩
          by_cases hf : fr < 0
          · obtain rfl : fr = -1 := by omega
            have HOK := Lib.hid ((HL.out.trans ((if_neg hn).trans (HEN.out (-1) (-1) _).symm)))
            rw [rgI_one] at HOK
            go_wp2_with fail
            go_loop [6, 10] (fun z i => ∃ j : Nat, j ≤ ln + 1 - ln ∧ i = .int .i64 ((ln + j : Nat) : Int) ∧ z = .int .u64 ((rngW x ln j).toNat : Int)) (fun _ i => ln + 1 - (intOf i).toNat)
            case atStart => exact ⟨0, Nat.zero_le _, by simp, rfl⟩
            case round =>
              obtain ⟨j, hj, rfl, rfl⟩ := hrel
              by_cases hjl : j < ln + 1 - ln
              · have HNX := Lib.hid (rngW_succ x ln j)
                generalize rngW x ln j = y at *
                obtain ⟨q, hq⟩ : ∃ q, q = ln + j := ⟨_, rfl⟩
                rw [← hq] at HNX ⊢
                have hq64 : q < 64 := by omega
                have hql : q ≤ ln := by omega
                have HQ : Hid ((q : Int) + 1 = ((ln + (j + 1) : Nat) : Int)) := by unfold Hid; omega
                clear hq
                go_wp2_with fail
                refine (sbit_any q hq64 _).mono ?_
                rintro e w' ⟨rfl, rfl⟩
                go_wp2_with fail
                go_round
                case rel => exact ⟨j + 1, by omega, by rw [← HQ.out], by rw [HNX.out, ← bits_or]⟩
                case measure => simp [intOf] <;> omega
              · obtain rfl : j = ln + 1 - ln := by omega
                have hge : ln < ln + (ln + 1 - ln) := by omega
                generalize hfj : ln + (ln + 1 - ln) = fj at *
                clear hfj
                go_wp2_with fail
                go_round
                case rel => exact ⟨s.size + 1, -1, -1, _, by omega, by simp, rfl, rfl, rfl, by decide, by decide, by decide, by decide, HOK.out⟩
                case measure => simp [intOf] <;> omega
          · obtain ⟨fn, rfl⟩ : ∃ fn : Nat, fr = fn := ⟨fr.toNat, by omega⟩
            have HOK := Lib.hid ((HL.out.trans ((if_neg hn).trans (HEN.out (-1) (-1) _).symm)))
            rw [rgI_run] at HOK
            go_wp2_with fail
            go_loop [6, 10] (fun z i => ∃ j : Nat, j ≤ ln + 1 - fn ∧ i = .int .i64 ((fn + j : Nat) : Int) ∧ z = .int .u64 ((rngW x fn j).toNat : Int)) (fun _ i => ln + 1 - (intOf i).toNat)
            case atStart => exact ⟨0, Nat.zero_le _, by simp, rfl⟩
            case round =>
              obtain ⟨j, hj, rfl, rfl⟩ := hrel
              by_cases hjl : j < ln + 1 - fn
              · have HNX := Lib.hid (rngW_succ x fn j)
                generalize rngW x fn j = y at *
                obtain ⟨q, hq⟩ : ∃ q, q = fn + j := ⟨_, rfl⟩
                rw [← hq] at HNX ⊢
                have hq64 : q < 64 := by omega
                have hql : q ≤ ln := by omega
                have HQ : Hid ((q : Int) + 1 = ((fn + (j + 1) : Nat) : Int)) := by unfold Hid; omega
                clear hq
                go_wp2_with fail
                refine (sbit_any q hq64 _).mono ?_
                rintro e w' ⟨rfl, rfl⟩
                go_wp2_with fail
                go_round
                case rel => exact ⟨j + 1, by omega, by rw [← HQ.out], by rw [HNX.out, ← bits_or]⟩
                case measure => simp [intOf] <;> omega
              · obtain rfl : j = ln + 1 - fn := by omega
                have hge : ln < fn + (ln + 1 - fn) := by omega
                generalize hfj : fn + (ln + 1 - fn) = fj at *
                clear hfj
                go_wp2_with fail
                go_round
                case rel => exact ⟨s.size + 1, -1, -1, _, by omega, by simp, rfl, rfl, rfl, by decide, by decide, by decide, by decide, HOK.out⟩
                case measure => simp [intOf] <;> omega
      · obtain rfl : k = s.size + 1 := by omega
        have HF := Lib.hid (HX.out.trans (HEN.out _ _ _))
        by_cases hq : fmtS x = S
        · have HR := Lib.hid (HEQ.out x hq)
          have hqb : (fmtS x == s.toList) = true := by rw [ByteArray.toList_eq, ← HS.out, hq]; simp
          clear hq
          go_wp2_with fail
          refine (sfmt_any x _).mono ?_
          rintro e w' ⟨rfl, rfl⟩
          go_wp2_with fail
          go_ret2
          exact ⟨congrArg Ending.returned HR.out.symm, rfl⟩
        · have HR := Lib.hid (HNE.out x HF.out hq)
          have hqb : (fmtS x == s.toList) = false := by rw [ByteArray.toList_eq, ← HS.out]; simpa using hq
          clear hq
          go_wp2_with fail
          refine (sfmt_any x _).mono ?_
          rintro e w' ⟨rfl, rfl⟩
          go_wp2_with fail
          go_ret2
          exact ⟨congrArg Ending.returned HR.out.symm, rfl⟩
end Go.Proofs.YtbkbikkieabcmaaDoor.Gf
