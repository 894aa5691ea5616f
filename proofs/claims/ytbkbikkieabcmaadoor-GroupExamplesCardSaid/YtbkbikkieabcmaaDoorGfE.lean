/- The contracts of read and Parse. -/
import Derived.Test.YtbkbikkieabcmaaDoorGfD
namespace Go.Proofs.YtbkbikkieabcmaaDoor.Gf
open Go Go.RowKit
set_option linter.unusedVariables false
set_option linter.unusedSimpArgs false
def rdV (o : Option W64) : Value := .tuple #[.int .u64 ((o.getD 0#64).toNat : Int), .bool o.isSome]
theorem beq_list (s : ByteArray) (c : UInt8) (h : ¬ s.data.toList = [c]) : (s.toList == [c]) = false := by
  rw [ByteArray.toList_eq]; simpa using h
theorem wsOf_len (s : ByteArray) : (wsOf s.data.toList).length ≤ s.size + 1 := by
  have hd := Lib.splitB_data ⟨#[44]⟩ 0 (Lib.countB s ⟨#[44]⟩) s
  have hl := Lib.splitB_all ⟨#[44]⟩ (by decide) 0 _ s rfl
  have hw : wsOf s.data.toList = (Lib.splitB ⟨#[44]⟩ 0 (Lib.countB s ⟨#[44]⟩) s).map (·.data.toList) := hd.symm
  have hc := Lib.countB_le ⟨#[44]⟩ (by decide) s.size s (Nat.le_refl _)
  rw [hw, List.length_map, hl]
  omega
theorem rdL_cons (s : W64) (w : By) (r : List By) : rdL s (w :: r) = match rdW w with | some (f, l) => rdL (rngW s f (l + 1 - f)) r | none => none := rfl
theorem atoi_bad {A : By} {e : Ending} (h : ∀ v, Lib.atoiAll A ≠ .ok v) (hA : AtoiOk A e) : ∃ v t p, e = .returned (.tuple #[.int .i64 v, .iface t (.pointer p)]) := by
  unfold AtoiOk at hA
  cases hc : Lib.atoiAll A
  case ok v => exact absurd hc (h v)
  all_goals
    rw [hc] at hA; exact hA
theorem atoi_good {A : By} {e : Ending} {v : Int} (h : Lib.atoiAll A = .ok v) (hA : AtoiOk A e) : e = .returned (.tuple #[.int .i64 v, .nilIface]) := by
  unfold AtoiOk at hA
  rw [h] at hA; exact hA
theorem atoi_dec (A : By) : (∃ v, Lib.atoiAll A = .ok v) ∨ ∀ v, Lib.atoiAll A ≠ .ok v := by
  cases hc : Lib.atoiAll A
  case ok v => exact .inl ⟨v, rfl⟩
  all_goals
    exact .inr fun v h => by cases h
theorem rdW_badA {D : By} (h : ∀ v, Lib.atoiAll (Lib.cut D [45]).1 ≠ .ok v) : rdW D = none := by
  unfold rdW
  split
  · rename_i f hf; exact absurd hf (h f)
  · rfl
theorem rdW_badB {D : By} (f : Int) (hf : Lib.atoiAll (Lib.cut D [45]).1 = .ok f) (ht : (Lib.cut D [45]).2.2 = true) (h : ∀ v, Lib.atoiAll (Lib.cut D [45]).2.1 ≠ .ok v) : rdW D = none := by
  unfold rdW
  rw [hf, ht]
  dsimp only
  rw [if_pos rfl]
  split
  · rename_i l hl; exact absurd hl (h l)
  · rfl
theorem rdW_ok {D : By} (f l : Int) (hf : Lib.atoiAll (Lib.cut D [45]).1 = .ok f) (hl : (if (Lib.cut D [45]).2.2 then Lib.atoiAll (Lib.cut D [45]).2.1 else .ok f) = .ok l) : rdW D = if vld f && vld l then some (f.toNat, l.toNat) else none := by
  unfold rdW
  rw [hf]
  dsimp only
  rw [hl]
set_option maxRecDepth 100000 in
set_option maxHeartbeats 6400000 in
theorem read_any (s : ByteArray) (hs : s.size ≤ 1000000000) (w : World) (hG : Gl w) : Calls Tryd.prog 34 #[.string s] w fun e w' => e = .returned (rdV (rdS s.data.toList)) ∧ Below w.heap.size w w' := by
  by_cases h1 : s.data.toList = [45]
  · have hE : rdS s.data.toList = some 0#64 := by rw [h1]; rfl
    obtain rfl : s = ⟨#[45]⟩ := by apply ByteArray.ext; apply Array.toList_inj.1; exact h1
    rw [hE]
    go_enter Tryd.func34, Tryd.ntmps34
    go_wp2_with fail
    go_ret2
    exact ⟨rfl, Below.refl _ _⟩
  by_cases h2 : s.data.toList = [42]
  · have hE : rdS s.data.toList = some (BitVec.allOnes 64) := by rw [h2]; rfl
    obtain rfl : s = ⟨#[42]⟩ := by apply ByteArray.ext; apply Array.toList_inj.1; exact h2
    rw [hE]
    go_enter Tryd.func34, Tryd.ntmps34
    go_wp2_with fail
    go_ret2
    exact ⟨rfl, Below.refl _ _⟩
  have hE : rdS s.data.toList = rdL 0#64 (wsOf s.data.toList) := by unfold rdS; rw [if_neg h1, if_neg h2]
  rw [hE]
  have b1 := beq_list s 45 h1
  have b2 := beq_list s 42 h2
  have HSP := Lib.hid (fun W h => split_any s hs W h)
  have hWL : ∀ x ∈ wsOf s.data.toList, x.length ≤ 1000000000 := fun x hx => by
    have := splitK_words 44 _ _ x hx
    have hz : s.size = s.data.toList.length := (Array.length_toList).symm
    omega
  have HWL := Lib.hid hWL
  have HGL := Lib.hid hG
  have hLn := wsOf_len s
  obtain ⟨L, hL⟩ : ∃ L, L = wsOf s.data.toList := ⟨_, rfl⟩
  rw [← hL] at HSP HWL hLn ⊢
  clear h1 h2 hE hWL hL hG
  go_enter Tryd.func34, Tryd.ntmps34
  go_wp2_with fail
  refine (HSP.out _ HGL.out).mono ?_
  rintro e w1 ⟨⟨la, lc, rfl, hli⟩, hB1⟩
  have HL1 := Lib.hid hli
  have HB1 := Lib.hid hB1
  clear hli hB1
  generalize hnn : L.length = n at *
  have HNN := Lib.hid hnn
  clear hnn
  go_wp2_with fail
  go_loopw [2, 21] (fun z i wr => ∃ (k : Nat) (x : W64), k ≤ n ∧ i = .int .i64 (k : Int) ∧ z = .int .u64 (x.toNat : Int) ∧ Hid (rdL 0#64 L = rdL x (L.drop k)) ∧ Hid (Below w1.heap.size w1 wr)) (fun _ i _ => n - (intOf i).toNat)
  case atStart => exact ⟨0, 0#64, Nat.zero_le _, rfl, rfl, rfl, Below.refl _ _⟩
  case round =>
    obtain ⟨k, x, hk, rfl, rfl, HX, HB⟩ := hrel
    by_cases hlt : k < n
    · have hkl : k < L.length := by rw [HNN.out]; exact hlt
      obtain ⟨b, off, rfl, hrow⟩ := HL1.out.2 (by omega)
      have c1 : wr.cell? ⟨b, off + k, none⟩ = some (.string ⟨L[k].toArray⟩) := (HB.out.cell (p := ⟨b, off + k, none⟩) hrow.1).trans (by have := hrow.2 k hkl 0 _ rfl; rwa [Nat.mul_one, Nat.add_zero] at this)
      have HG0 : Hid (Gl wr) := Gl.later (Gl.later HGL.out HB1.out) HB.out
      have hDl := HWL.out _ (List.getElem_mem hkl)
      have HDR : Hid (L.drop k = L[k] :: L.drop (k + 1)) := List.drop_eq_getElem_cons hkl
      have hcl := cut_len L[k]
      have HCUT := Lib.hid (fun W h => cut_any L[k] hDl W h)
      have HBA := Lib.hid (@rdW_badA L[k])
      have HBB := Lib.hid (@rdW_badB L[k])
      have HOK := Lib.hid (@rdW_ok L[k])
      have hbl := hrow.1
      clear hrow
      generalize L[k] = D at *
      obtain ⟨⟨A, B, t⟩, hc⟩ : ∃ c, c = Lib.cut D [45] := ⟨_, rfl⟩
      rw [← hc] at hcl HCUT HBA HBB HOK
      dsimp only at hcl HCUT HBA HBB HOK
      clear hc
      have hAl : A.length ≤ 1000000000 := by omega
      have hBl : B.length ≤ 1000000000 := by omega
      have HAT := Lib.hid (atoi_any A hAl)
      have HBT := Lib.hid (atoi_any B hBl)
      go_wp2_with fail
      refine (HCUT.out _ HG0.out).mono ?_
      rintro e w4 ⟨rfl, hB4⟩
      have HG4 := Lib.hid (Gl.later HG0.out hB4)
      have HB4 := Lib.hid (Below.next HB.out hB4)
      clear hB4 HB HG0 c1
      go_wp2_with fail
      refine (HAT.out _ HG4.out).mono ?_
      rintro e w5 ⟨hA, hB5⟩
      have HG5 := Lib.hid (Gl.later HG4.out hB5)
      have HB5 := Lib.hid (Below.next HB4.out hB5)
      clear hB5 HB4 HG4
      rcases atoi_dec A with ⟨f, hf⟩ | hbad
      · obtain rfl := atoi_good hf hA
        clear hA
        cases t
        · have HWD := Lib.hid (HOK.out f f hf rfl)
          clear hf
          cases hvf : vld f
          · have HF0 : Hid (rdL 0#64 L = none) := by unfold Hid; rw [HX.out, HDR.out]; unfold rdL; rw [HWD.out, hvf]; rfl
            have HVF := Lib.hid hvf
            clear hvf
            go_wp2_with fail
            refine (valid_any _ _).mono ?_
            rintro e w9 ⟨rfl, rfl⟩
            rw [HVF.out]
            go_wp2_with fail
            go_ret2
            exact ⟨by rw [HF0.out]; rfl, Below.next HB1.out HB5.out⟩
          have HVF := Lib.hid hvf
          clear hvf
          have HVL := HVF
          obtain ⟨f0, f1⟩ : 0 ≤ f ∧ f < 64 := of_decide_eq_true HVF.out
          have HRW : Hid (rdL x (L.drop k) = rdL (rngW x f.toNat (f.toNat + 1 - f.toNat)) (L.drop (k + 1))) := by unfold Hid; rw [HDR.out]; rw [rdL_cons, HWD.out, HVF.out]; rfl
          obtain ⟨fn, rfl⟩ : ∃ fn : Nat, f = fn := ⟨f.toNat, by omega⟩
          simp only [Int.toNat_natCast] at HRW
          go_wp2_with fail
          refine (valid_any _ _).mono ?_
          rintro e w9 ⟨rfl, rfl⟩
          rw [HVF.out]
          go_wp2_with fail
          refine (valid_any _ _).mono ?_
          rintro e w9 ⟨rfl, rfl⟩
          rw [HVL.out]
          go_wp2_with fail
          go_loop [2, 12] (fun z i => ∃ j : Nat, j ≤ fn + 1 - fn ∧ i = .int .i64 ((fn + j : Nat) : Int) ∧ z = .int .u64 ((rngW x fn j).toNat : Int)) (fun _ i => fn + 1 - (intOf i).toNat)
          case atStart => exact ⟨0, Nat.zero_le _, by simp, rfl⟩
          case round =>
            obtain ⟨j, hj, rfl, rfl⟩ := hrel
            by_cases hjl : j < fn + 1 - fn
            · have HNX := Lib.hid (rngW_succ x fn j)
              generalize rngW x fn j = y at *
              obtain ⟨q, hq⟩ : ∃ q, q = fn + j := ⟨_, rfl⟩
              rw [← hq] at HNX ⊢
              have hq64 : q < 64 := by omega
              have hql : q ≤ fn := by omega
              have HQ : Hid ((q : Int) + 1 = ((fn + (j + 1) : Nat) : Int)) := by unfold Hid; omega
              clear hq
              go_wp2_with fail
              go_round
              case rel => exact ⟨j + 1, by omega, by rw [← HQ.out], by rw [HNX.out, ← bits_or]; unfold bitW; rw [← shl_one]⟩
              case measure => simp [intOf]; omega
            · obtain rfl : j = fn + 1 - fn := by omega
              have hge : fn < fn + (fn + 1 - fn) := by omega
              generalize hfj : fn + (fn + 1 - fn) = fj at *
              clear hfj
              go_wp2_with fail
              exact ⟨⟨k + 1, _, by omega, by go_num, rfl, HX.out.trans HRW.out, HB5.out⟩, by simp [intOf]; omega⟩
        · rcases atoi_dec B with ⟨l, hl⟩ | hbad
          · have HWD := Lib.hid (HOK.out f l hf hl)
            have HLB := Lib.hid hl
            clear hf hl
            go_wp2_with fail
            refine (HBT.out _ HG5.out).mono ?_
            rintro e w6 ⟨hA, hB6⟩
            obtain rfl := atoi_good HLB.out hA
            have HB6 := Lib.hid (Below.next HB5.out hB6)
            clear hA hB6 HB5 HG5
            cases hvf : vld f
            · have HF0 : Hid (rdL 0#64 L = none) := by unfold Hid; rw [HX.out, HDR.out]; unfold rdL; rw [HWD.out, hvf]; rfl
              have HVF := Lib.hid hvf
              clear hvf
              go_wp2_with fail
              refine (valid_any _ _).mono ?_
              rintro e w9 ⟨rfl, rfl⟩
              rw [HVF.out]
              go_wp2_with fail
              go_ret2
              exact ⟨by rw [HF0.out]; rfl, Below.next HB1.out HB6.out⟩
            have HVF := Lib.hid hvf
            clear hvf
            cases hvl : vld l
            · have HF0 : Hid (rdL 0#64 L = none) := by unfold Hid; rw [HX.out, HDR.out]; unfold rdL; rw [HWD.out, HVF.out, hvl]; rfl
              have HVL := Lib.hid hvl
              clear hvl
              go_wp2_with fail
              refine (valid_any _ _).mono ?_
              rintro e w9 ⟨rfl, rfl⟩
              rw [HVF.out]
              go_wp2_with fail
              refine (valid_any _ _).mono ?_
              rintro e w9 ⟨rfl, rfl⟩
              rw [HVL.out]
              go_wp2_with fail
              go_ret2
              exact ⟨by rw [HF0.out]; rfl, Below.next HB1.out HB6.out⟩
            have HVL := Lib.hid hvl
            clear hvl
            obtain ⟨l0, l1⟩ : 0 ≤ l ∧ l < 64 := of_decide_eq_true HVL.out
            obtain ⟨f0, f1⟩ : 0 ≤ f ∧ f < 64 := of_decide_eq_true HVF.out
            have HRW : Hid (rdL x (L.drop k) = rdL (rngW x f.toNat (l.toNat + 1 - f.toNat)) (L.drop (k + 1))) := by unfold Hid; rw [HDR.out]; rw [rdL_cons, HWD.out, HVF.out, HVL.out]; rfl
            obtain ⟨fn, rfl⟩ : ∃ fn : Nat, f = fn := ⟨f.toNat, by omega⟩
            obtain ⟨ln, rfl⟩ : ∃ ln : Nat, l = ln := ⟨l.toNat, by omega⟩
            simp only [Int.toNat_natCast] at HRW
            go_wp2_with fail
            refine (valid_any _ _).mono ?_
            rintro e w9 ⟨rfl, rfl⟩
            rw [HVF.out]
            go_wp2_with fail
            refine (valid_any _ _).mono ?_
            rintro e w9 ⟨rfl, rfl⟩
            rw [HVL.out]
            go_wp2_with fail
            go_loop [2, 12] (fun z i => ∃ j : Nat, j ≤ ln + 1 - fn ∧ i = .int .i64 ((fn + j : Nat) : Int) ∧ z = .int .u64 ((rngW x fn j).toNat : Int)) (fun _ i => ln + 1 - (intOf i).toNat)
            case atStart => exact ⟨0, Nat.zero_le _, by simp, rfl⟩
            case round =>
              obtain ⟨j, hj, rfl, rfl⟩ := hrel
              by_cases hjl : j < ln + 1 - fn
              · have HNX := Lib.hid (rngW_succ x fn j)
                generalize rngW x fn j = y at *
                obtain ⟨q, hq⟩ : ∃ q, q = fn + j := ⟨_, rfl⟩
                rw [← hq] at HNX ⊢
                have hq64 : q < 64 := by omega
                have hql : q ≤ ln := by omega
                have HQ : Hid ((q : Int) + 1 = ((fn + (j + 1) : Nat) : Int)) := by unfold Hid; omega
                clear hq
                go_wp2_with fail
                go_round
                case rel => exact ⟨j + 1, by omega, by rw [← HQ.out], by rw [HNX.out, ← bits_or]; unfold bitW; rw [← shl_one]⟩
                case measure => simp [intOf]; omega
              · obtain rfl : j = ln + 1 - fn := by omega
                have hge : ln < fn + (ln + 1 - fn) := by omega
                generalize hfj : fn + (ln + 1 - fn) = fj at *
                clear hfj
                go_wp2_with fail
                exact ⟨⟨k + 1, _, by omega, by go_num, rfl, HX.out.trans HRW.out, HB6.out⟩, by simp [intOf]; omega⟩
          · have HF0 : Hid (rdL 0#64 L = none) := by unfold Hid; rw [HX.out, HDR.out, rdL_cons, HBB.out f hf rfl hbad]
            have HBD := Lib.hid hbad
            clear hf hbad
            go_wp2_with fail
            refine (HBT.out _ HG5.out).mono ?_
            rintro e w6 ⟨hA, hB6⟩
            obtain ⟨v, ty, p, rfl⟩ := atoi_bad HBD.out hA
            have HB6 := Lib.hid (Below.next HB5.out hB6)
            clear hA hB6 HB5 HG5
            go_wp2_with fail
            go_ret2
            exact ⟨by rw [HF0.out]; rfl, Below.next HB1.out HB6.out⟩
      · obtain ⟨v, ty, p, rfl⟩ := atoi_bad hbad hA
        have HF0 : Hid (rdL 0#64 L = none) := by unfold Hid; rw [HX.out, HDR.out, rdL_cons, HBA.out hbad]
        clear hA hbad
        cases t
        all_goals
          go_wp2_with fail
          go_ret2
          exact ⟨by rw [HF0.out]; rfl, Below.next HB1.out HB5.out⟩
    · obtain rfl : k = n := by omega
      have HE : Hid (rdL 0#64 L = some x) := by unfold Hid; rw [HX.out, List.drop_of_length_le (by rw [HNN.out]; exact Nat.le_refl _)]; rfl
      go_wp2_with fail
      go_ret2
      exact ⟨by rw [HE.out]; rfl, Below.next HB1.out HB.out⟩
end Go.Proofs.YtbkbikkieabcmaaDoor.Gf
