/- Merged: GfE GfP GfM. -/
import Derived.Test.YtelanmknimapoaaGreatDoorMge
/- The contracts of read and Parse. -/
namespace Go.Proofs.YtelanmknimapoaaGreatDoor.Gf
open Go Go.RowKit
set_option linter.unusedVariables false
set_option linter.unusedSimpArgs false
def rdV (o : Option W64) : Value := .tuple #[.int .u64 ((o.getD 0#64).toNat : Int), .bool o.isSome]
theorem zr7 (s : ByteArray) (c : UInt8) (h : ¬ s.data.toList = [c]) : (s.toList == [c]) = false := by
 rw [ByteArray.toList_eq]; simpa using h
theorem zqk (s : ByteArray) : (wsOf s.data.toList).length ≤ s.size + 1 := by
 have hd := Lib.splitB_data ⟨#[44]⟩ 0 (Lib.countB s ⟨#[44]⟩) s
 have hl := Lib.splitB_all ⟨#[44]⟩ (by decide) 0 _ s rfl
 have hw : wsOf s.data.toList = (Lib.splitB ⟨#[44]⟩ 0 (Lib.countB s ⟨#[44]⟩) s).map (·.data.toList) := hd.symm
 have hc := Lib.countB_le ⟨#[44]⟩ (by decide) s.size s (Nat.le_refl _)
 rw [hw, List.length_map, hl]
 omega
theorem zey (s : W64) (w : By) (r : List By) : rdL s (w :: r) = match rdW w with | some (f, l) => rdL (rngW s f (l + 1 - f)) r | none => none := rfl
theorem zmy {A : By} {e : Ending} (h : ∀ v, Lib.atoiAll A ≠ .ok v) (hA : zll A e) : ∃ v t p, e = .returned (.tuple #[.int .i64 v, .iface t (.pointer p)]) := by
 unfold zll at hA
 cases hc : Lib.atoiAll A
 case ok v => exact absurd hc (h v)
 all_goals
  rw [hc] at hA; exact hA
theorem zkc {A : By} {e : Ending} {v : Int} (h : Lib.atoiAll A = .ok v) (hA : zll A e) : e = .returned (.tuple #[.int .i64 v, .nilIface]) := by
 unfold zll at hA
 rw [h] at hA; exact hA
theorem zr8 (A : By) : (∃ v, Lib.atoiAll A = .ok v) ∨ ∀ v, Lib.atoiAll A ≠ .ok v := by
 cases hc : Lib.atoiAll A
 case ok v => exact .inl ⟨v, rfl⟩
 all_goals
  exact .inr fun v h => by cases h
theorem zx1 {D : By} (h : ∀ v, Lib.atoiAll (Lib.cut D [45]).1 ≠ .ok v) : rdW D = none := by
 unfold rdW
 split
 · rename_i f hf; exact absurd hf (h f)
 · rfl
theorem zx0 {D : By} (f : Int) (hf : Lib.atoiAll (Lib.cut D [45]).1 = .ok f) (ht : (Lib.cut D [45]).2.2 = true) (h : ∀ v, Lib.atoiAll (Lib.cut D [45]).2.1 ≠ .ok v) : rdW D = none := by
 unfold rdW
 rw [hf, ht]
 dsimp only
 rw [if_pos rfl]
 split
 · rename_i l hl; exact absurd hl (h l)
 · rfl
theorem zu1 {D : By} (f l : Int) (hf : Lib.atoiAll (Lib.cut D [45]).1 = .ok f) (hl : (if (Lib.cut D [45]).2.2 then Lib.atoiAll (Lib.cut D [45]).2.1 else .ok f) = .ok l) : rdW D = if vld f && vld l then some (f.toNat, l.toNat) else none := by
 unfold rdW
 rw [hf]
 dsimp only
 rw [hl]
set_option maxRecDepth 100000 in
set_option maxHeartbeats 6400000 in
theorem read_any (s : ByteArray) (hs : s.size ≤ 1000000000) (w : World) (hG : Gl w) : Calls Tryz.prog 110 #[.string s] w fun e w' => e = .returned (rdV (rdS s.data.toList)) ∧ Below w.heap.size w w' := by
 by_cases h1 : s.data.toList = [45]
 · have hE : rdS s.data.toList = some 0#64 := by rw [h1]; rfl
   obtain rfl : s = ⟨#[45]⟩ := by apply ByteArray.ext; apply Array.toList_inj.1; exact h1
   rw [hE]
   go_enter Tryz.func110, Tryz.ntmps110
   go_wp2_with fail
   go_ret2
   exact ⟨rfl, Below.refl _ _⟩
 by_cases h2 : s.data.toList = [42]
 · have hE : rdS s.data.toList = some (BitVec.allOnes 64) := by rw [h2]; rfl
   obtain rfl : s = ⟨#[42]⟩ := by apply ByteArray.ext; apply Array.toList_inj.1; exact h2
   rw [hE]
   go_enter Tryz.func110, Tryz.ntmps110
   go_wp2_with fail
   go_ret2
   exact ⟨rfl, Below.refl _ _⟩
 have hE : rdS s.data.toList = rdL 0#64 (wsOf s.data.toList) := by unfold rdS; rw [if_neg h1, if_neg h2]
 rw [hE]
 have b1 := zr7 s 45 h1
 have b2 := zr7 s 42 h2
 have HSP := Lib.hid (fun W h => znf s hs W h)
 have hWL : ∀ x ∈ wsOf s.data.toList, x.length ≤ 1000000000 := fun x hx => by
  have := zeh 44 _ _ x hx
  have hz : s.size = s.data.toList.length := (Array.length_toList).symm
  omega
 have HWL := Lib.hid hWL
 have HGL := Lib.hid hG
 have hLn := zqk s
 obtain ⟨L, hL⟩ : ∃ L, L = wsOf s.data.toList := ⟨_, rfl⟩
 rw [← hL] at HSP HWL hLn ⊢
 clear h1 h2 hE hWL hL hG
 go_enter Tryz.func110, Tryz.ntmps110
 go_wp2_with fail
 refine (HSP.out _ HGL.out).mono ?_
 rintro e w1 ⟨⟨la, lc, rfl, hli⟩, hB1⟩
 have HL1 := Lib.hid hli
 have HB1 := Lib.hid hB1
 clear hli hB1
 generalize hnn : L.length = n at *
 have HNN := Lib.hid hnn
 clear hnn
 go_wp2_with fail
 go_loopw [2, 21] (fun z i wr => ∃ (k : Nat) (x : W64), k ≤ n ∧ i = .int .i64 (k : Int) ∧ z = .int .u64 (x.toNat : Int) ∧ Hid (rdL 0#64 L = rdL x (L.drop k)) ∧ Hid (Below w1.heap.size w1 wr)) (fun _ i _ => n - (intOf i).toNat)
 case atStart => exact ⟨0, 0#64, Nat.zero_le _, rfl, rfl, rfl, Below.refl _ _⟩
 case round =>
  obtain ⟨k, x, hk, rfl, rfl, HX, HB⟩ := hrel
  by_cases hlt : k < n
  · have hkl : k < L.length := by rw [HNN.out]; exact hlt
    obtain ⟨b, off, rfl, hrow⟩ := HL1.out.2 (by omega)
    have c1 : wr.cell? ⟨b, off + k, none⟩ = some (.string ⟨L[k].toArray⟩) := (HB.out.cell (p := ⟨b, off + k, none⟩) hrow.1).trans (by have := hrow.2 k hkl 0 _ rfl; rwa [Nat.mul_one, Nat.add_zero] at this)
    have HG0 : Hid (Gl wr) := Gl.later (Gl.later HGL.out HB1.out) HB.out
    have hDl := HWL.out _ (List.getElem_mem hkl)
    have HDR : Hid (L.drop k = L[k] :: L.drop (k + 1)) := List.drop_eq_getElem_cons hkl
    have hcl := yd6 L[k]
    have HCUT := Lib.hid (fun W h => cut_any L[k] hDl W h)
    have HBA := Lib.hid (@zx1 L[k])
    have HBB := Lib.hid (@zx0 L[k])
    have HOK := Lib.hid (@zu1 L[k])
    have hbl := hrow.1
    clear hrow
    generalize L[k] = D at *
    obtain ⟨⟨A, B, t⟩, hc⟩ : ∃ c, c = Lib.cut D [45] := ⟨_, rfl⟩
    rw [← hc] at hcl HCUT HBA HBB HOK
    dsimp only at hcl HCUT HBA HBB HOK
    clear hc
    have hAl : A.length ≤ 1000000000 := by omega
    have hBl : B.length ≤ 1000000000 := by omega
    have HAT := Lib.hid (zid A hAl)
    have HBT := Lib.hid (zid B hBl)
    go_wp2_with fail
    refine (HCUT.out _ HG0.out).mono ?_
    rintro e w4 ⟨rfl, hB4⟩
    have HG4 := Lib.hid (Gl.later HG0.out hB4)
    have HB4 := Lib.hid (Below.next HB.out hB4)
    clear hB4 HB HG0 c1
    go_wp2_with fail
    refine (HAT.out _ HG4.out).mono ?_
    rintro e w5 ⟨hA, hB5⟩
    have HG5 := Lib.hid (Gl.later HG4.out hB5)
    have HB5 := Lib.hid (Below.next HB4.out hB5)
    clear hB5 HB4 HG4
    rcases zr8 A with ⟨f, hf⟩ | hbad
    · obtain rfl := zkc hf hA
      clear hA
      cases t
      · have HWD := Lib.hid (HOK.out f f hf rfl)
        clear hf
        cases hvf : vld f
        · have HF0 : Hid (rdL 0#64 L = none) := by unfold Hid; rw [HX.out, HDR.out]; unfold rdL; rw [HWD.out, hvf]; rfl
          have HVF := Lib.hid hvf
          clear hvf
          go_wp2_with fail
          refine (valid_any _ _).mono ?_
          rintro e w9 ⟨rfl, rfl⟩
          rw [HVF.out]
          go_wp2_with fail
          go_ret2
          exact ⟨by rw [HF0.out]; rfl, Below.next HB1.out HB5.out⟩
        have HVF := Lib.hid hvf
        clear hvf
        have HVL := HVF
        obtain ⟨f0, f1⟩ : 0 ≤ f ∧ f < 64 := of_decide_eq_true HVF.out
        have HRW : Hid (rdL x (L.drop k) = rdL (rngW x f.toNat (f.toNat + 1 - f.toNat)) (L.drop (k + 1))) := by unfold Hid; rw [HDR.out]; rw [zey, HWD.out, HVF.out]; rfl
        obtain ⟨fn, rfl⟩ : ∃ fn : Nat, f = fn := ⟨f.toNat, by omega⟩
        simp only [Int.toNat_natCast] at HRW
        go_wp2_with fail
        refine (valid_any _ _).mono ?_
        rintro e w9 ⟨rfl, rfl⟩
        rw [HVF.out]
        go_wp2_with fail
        refine (valid_any _ _).mono ?_
        rintro e w9 ⟨rfl, rfl⟩
        rw [HVL.out]
        go_wp2_with fail
        go_loop [2, 12] (fun z i => ∃ j : Nat, j ≤ fn + 1 - fn ∧ i = .int .i64 ((fn + j : Nat) : Int) ∧ z = .int .u64 ((rngW x fn j).toNat : Int)) (fun _ i => fn + 1 - (intOf i).toNat)
        case atStart => exact ⟨0, Nat.zero_le _, by simp, rfl⟩
        case round =>
         obtain ⟨j, hj, rfl, rfl⟩ := hrel
         by_cases hjl : j < fn + 1 - fn
         · have HNX := Lib.hid (ziz x fn j)
           generalize rngW x fn j = y at *
           obtain ⟨q, hq⟩ : ∃ q, q = fn + j := ⟨_, rfl⟩
           rw [← hq] at HNX ⊢
           have hq64 : q < 64 := by omega
           have hql : q ≤ fn := by omega
           have HQ : Hid ((q : Int) + 1 = ((fn + (j + 1) : Nat) : Int)) := by unfold Hid; omega
           clear hq
           go_wp2_with fail
           go_round
           case rel => exact ⟨j + 1, by omega, by rw [← HQ.out], by rw [HNX.out, ← zw7]; unfold bitW; rw [← zuv]⟩
           case measure => simp [intOf]; omega
         · obtain rfl : j = fn + 1 - fn := by omega
           have hge : fn < fn + (fn + 1 - fn) := by omega
           generalize hfj : fn + (fn + 1 - fn) = fj at *
           clear hfj
           go_wp2_with fail
           exact ⟨⟨k + 1, _, by omega, by go_num, rfl, HX.out.trans HRW.out, HB5.out⟩, by simp [intOf]; omega⟩
      · rcases zr8 B with ⟨l, hl⟩ | hbad
        · have HWD := Lib.hid (HOK.out f l hf hl)
          have HLB := Lib.hid hl
          clear hf hl
          go_wp2_with fail
          refine (HBT.out _ HG5.out).mono ?_
          rintro e w6 ⟨hA, hB6⟩
          obtain rfl := zkc HLB.out hA
          have HB6 := Lib.hid (Below.next HB5.out hB6)
          clear hA hB6 HB5 HG5
          cases hvf : vld f
          · have HF0 : Hid (rdL 0#64 L = none) := by unfold Hid; rw [HX.out, HDR.out]; unfold rdL; rw [HWD.out, hvf]; rfl
            have HVF := Lib.hid hvf
            clear hvf
            go_wp2_with fail
            refine (valid_any _ _).mono ?_
            rintro e w9 ⟨rfl, rfl⟩
            rw [HVF.out]
            go_wp2_with fail
            go_ret2
            exact ⟨by rw [HF0.out]; rfl, Below.next HB1.out HB6.out⟩
          have HVF := Lib.hid hvf
          clear hvf
          cases hvl : vld l
          · have HF0 : Hid (rdL 0#64 L = none) := by unfold Hid; rw [HX.out, HDR.out]; unfold rdL; rw [HWD.out, HVF.out, hvl]; rfl
            have HVL := Lib.hid hvl
            clear hvl
            go_wp2_with fail
            refine (valid_any _ _).mono ?_
            rintro e w9 ⟨rfl, rfl⟩
            rw [HVF.out]
            go_wp2_with fail
            refine (valid_any _ _).mono ?_
            rintro e w9 ⟨rfl, rfl⟩
            rw [HVL.out]
            go_wp2_with fail
            go_ret2
            exact ⟨by rw [HF0.out]; rfl, Below.next HB1.out HB6.out⟩
          have HVL := Lib.hid hvl
          clear hvl
          obtain ⟨l0, l1⟩ : 0 ≤ l ∧ l < 64 := of_decide_eq_true HVL.out
          obtain ⟨f0, f1⟩ : 0 ≤ f ∧ f < 64 := of_decide_eq_true HVF.out
          have HRW : Hid (rdL x (L.drop k) = rdL (rngW x f.toNat (l.toNat + 1 - f.toNat)) (L.drop (k + 1))) := by unfold Hid; rw [HDR.out]; rw [zey, HWD.out, HVF.out, HVL.out]; rfl
          obtain ⟨fn, rfl⟩ : ∃ fn : Nat, f = fn := ⟨f.toNat, by omega⟩
          obtain ⟨ln, rfl⟩ : ∃ ln : Nat, l = ln := ⟨l.toNat, by omega⟩
          simp only [Int.toNat_natCast] at HRW
          go_wp2_with fail
          refine (valid_any _ _).mono ?_
          rintro e w9 ⟨rfl, rfl⟩
          rw [HVF.out]
          go_wp2_with fail
          refine (valid_any _ _).mono ?_
          rintro e w9 ⟨rfl, rfl⟩
          rw [HVL.out]
          go_wp2_with fail
          go_loop [2, 12] (fun z i => ∃ j : Nat, j ≤ ln + 1 - fn ∧ i = .int .i64 ((fn + j : Nat) : Int) ∧ z = .int .u64 ((rngW x fn j).toNat : Int)) (fun _ i => ln + 1 - (intOf i).toNat)
          case atStart => exact ⟨0, Nat.zero_le _, by simp, rfl⟩
          case round =>
           obtain ⟨j, hj, rfl, rfl⟩ := hrel
           by_cases hjl : j < ln + 1 - fn
           · have HNX := Lib.hid (ziz x fn j)
             generalize rngW x fn j = y at *
             obtain ⟨q, hq⟩ : ∃ q, q = fn + j := ⟨_, rfl⟩
             rw [← hq] at HNX ⊢
             have hq64 : q < 64 := by omega
             have hql : q ≤ ln := by omega
             have HQ : Hid ((q : Int) + 1 = ((fn + (j + 1) : Nat) : Int)) := by unfold Hid; omega
             clear hq
             go_wp2_with fail
             go_round
             case rel => exact ⟨j + 1, by omega, by rw [← HQ.out], by rw [HNX.out, ← zw7]; unfold bitW; rw [← zuv]⟩
             case measure => simp [intOf]; omega
           · obtain rfl : j = ln + 1 - fn := by omega
             have hge : ln < fn + (ln + 1 - fn) := by omega
             generalize hfj : fn + (ln + 1 - fn) = fj at *
             clear hfj
             go_wp2_with fail
             exact ⟨⟨k + 1, _, by omega, by go_num, rfl, HX.out.trans HRW.out, HB6.out⟩, by simp [intOf]; omega⟩
        · have HF0 : Hid (rdL 0#64 L = none) := by unfold Hid; rw [HX.out, HDR.out, zey, HBB.out f hf rfl hbad]
          have HBD := Lib.hid hbad
          clear hf hbad
          go_wp2_with fail
          refine (HBT.out _ HG5.out).mono ?_
          rintro e w6 ⟨hA, hB6⟩
          obtain ⟨v, ty, p, rfl⟩ := zmy HBD.out hA
          have HB6 := Lib.hid (Below.next HB5.out hB6)
          clear hA hB6 HB5 HG5
          go_wp2_with fail
          go_ret2
          exact ⟨by rw [HF0.out]; rfl, Below.next HB1.out HB6.out⟩
    · obtain ⟨v, ty, p, rfl⟩ := zmy hbad hA
      have HF0 : Hid (rdL 0#64 L = none) := by unfold Hid; rw [HX.out, HDR.out, zey, HBA.out hbad]
      clear hA hbad
      cases t
      all_goals
       go_wp2_with fail
       go_ret2
       exact ⟨by rw [HF0.out]; rfl, Below.next HB1.out HB5.out⟩
  · obtain rfl : k = n := by omega
    have HE : Hid (rdL 0#64 L = some x) := by unfold Hid; rw [HX.out, List.drop_of_length_le (by rw [HNN.out]; exact Nat.le_refl _)]; rfl
    go_wp2_with fail
    go_ret2
    exact ⟨by rw [HE.out]; rfl, Below.next HB1.out HB.out⟩
end Go.Proofs.YtelanmknimapoaaGreatDoor.Gf
/- The contract of group's Parse. -/
namespace Go.Proofs.YtelanmknimapoaaGreatDoor.Gf
open Go Go.RowKit
set_option linter.unusedVariables false
set_option linter.unusedSimpArgs false
def pzS (s : By) : W64 × Int := match rdS s with
 | some x => if fmtS x = s then (x, 0) else (0#64, 4)
 | none => (0#64, 4)
def pzV (s : By) : Value := .tuple #[.int .u64 ((pzS s).1.toNat : Int), .int .i64 (pzS s).2]
theorem zx8 {s : By} (h : rdS s = none) : pzV s = .tuple #[.int .u64 0, .int .i64 4] := by unfold pzV pzS; rw [h]; rfl
theorem yfe {s : By} {x : W64} (h : rdS s = some x) (h2 : fmtS x ≠ s) : pzV s = .tuple #[.int .u64 0, .int .i64 4] := by unfold pzV pzS; rw [h]; dsimp only; rw [if_neg h2]; rfl
theorem yff {s : By} {x : W64} (h : rdS s = some x) (h2 : fmtS x = s) : pzV s = .tuple #[.int .u64 (x.toNat : Int), .int .i64 0] := by unfold pzV pzS; rw [h]; dsimp only; rw [if_pos h2]
theorem zwc (x : W64) : (fmtS x).length ≤ 1000 := by
 unfold fmtS
 split
 · simp
 · split
   · simp
   · have h1 := yhf (x := x) (u := 0) (V := []) rfl
     have h2 := yhf (x := x) (u := 64) (V := W x 0) (by rw [ztz x (Nat.le_refl _), List.append_nil])
     have h3 := join_len (W x 0) (fun w hw => (h2.2 w hw).2)
     omega
set_option maxRecDepth 100000 in
set_option maxHeartbeats 6400000 in
theorem parse_any (s : ByteArray) (hs : s.size ≤ 1000000000) (w : World) (hG : Gl w) : Calls Tryz.prog 89 #[.string s] w fun e w' => e = .returned (pzV s.data.toList) ∧ Below w.heap.size w w' := by
 have HRD := Lib.hid (fun W h => read_any s hs W h)
 have HGL := Lib.hid hG
 cases hr : rdS s.data.toList with
 | none =>
  have HPZ := Lib.hid (zx8 hr)
  rw [hr] at HRD
  clear hr hG
  go_enter Tryz.func89, Tryz.ntmps89
  go_wp2_with fail
  refine (HRD.out _ HGL.out).mono ?_
  rintro e w1 ⟨rfl, hB⟩
  have HB := Lib.hid hB
  clear hB
  unfold rdV
  go_wp2_with fail
  go_ret2
  exact ⟨congrArg Ending.returned HPZ.out.symm, HB.out⟩
 | some x =>
  rw [hr] at HRD
  have HFM := Lib.hid (fun W => zdm x W)
  rcases Classical.em (fmtS x = s.data.toList) with he | he
  · have HPZ := Lib.hid (yff hr he)
    obtain ⟨d⟩ := s
    obtain ⟨l⟩ := d
    dsimp only at he HRD HPZ ⊢
    subst he
    clear hr hG
    go_enter Tryz.func89, Tryz.ntmps89
    go_wp2_with fail
    refine (HRD.out _ HGL.out).mono ?_
    rintro e w1 ⟨rfl, hB⟩
    have HB := Lib.hid hB
    clear hB
    unfold rdV
    go_wp2_with fail
    refine (HFM.out _).mono ?_
    rintro e w2 ⟨rfl, hB⟩
    have HB2 := Lib.hid hB
    clear hB
    go_wp2_with fail
    go_ret2
    exact ⟨congrArg Ending.returned HPZ.out.symm, Below.next HB.out HB2.out⟩
  · have HPZ := Lib.hid (yfe hr he)
    have hne : (fmtS x == s.toList) = false := by rw [ByteArray.toList_eq]; simpa using he
    clear hr hG
    go_enter Tryz.func89, Tryz.ntmps89
    go_wp2_with fail
    refine (HRD.out _ HGL.out).mono ?_
    rintro e w1 ⟨rfl, hB⟩
    have HB := Lib.hid hB
    clear hB
    unfold rdV
    go_wp2_with fail
    refine (HFM.out _).mono ?_
    rintro e w2 ⟨rfl, hB⟩
    have HB2 := Lib.hid hB
    clear hB
    go_wp2_with fail
    go_ret2
    exact ⟨congrArg Ending.returned HPZ.out.symm, Below.next HB.out HB2.out⟩
end Go.Proofs.YtelanmknimapoaaGreatDoor.Gf
/- Texts of sets: reading leads back; the specification's reader. -/
namespace Go.Proofs.YtelanmknimapoaaGreatDoor.Gf
open Go Go.RowKit
set_option linter.unusedVariables false
set_option linter.unusedSimpArgs false
theorem yao (u i : Nat) (hi : i < 64) : (bitW u).getLsbD i = decide (i = u) := by
 unfold bitW
 rw [BitVec.getLsbD_shiftLeft]
 simp only [hi, decide_true, Bool.true_and, BitVec.getLsbD_one]
 rcases Nat.lt_trichotomy i u with h | h | h
 · simp [h]; omega
 · subst h; simp
 · have h1 : ¬ i < u := by omega
   have h2 : i - u ≠ 0 := by omega
   have h3 : i ≠ u := by omega
   simp [h1, h2, h3]
theorem zqy (s : W64) (f i : Nat) (hi : i < 64) : ∀ n, (rngW s f n).getLsbD i = (s.getLsbD i || decide (f ≤ i ∧ i < f + n))
 | 0 => by
  have : ¬ (f ≤ i ∧ i < f + 0) := by omega
  rw [decide_eq_false this, Bool.or_false]; rfl
 | n + 1 => by
  rw [ziz, BitVec.getLsbD_or, zqy s f i hi n, yao _ _ hi, Bool.or_assoc]
  congr 1
  by_cases h1 : i = f + n
  · subst h1; simp
  · by_cases h2 : f ≤ i ∧ i < f + n
    · rw [decide_eq_true h2, decide_eq_true (show f ≤ i ∧ i < f + (n + 1) by omega)]; rfl
    · rw [decide_eq_false h2, decide_eq_false h1, decide_eq_false (show ¬ (f ≤ i ∧ i < f + (n + 1)) by omega)]; rfl
def Rd (x s : W64) (u : Nat) : Prop := ∀ i, i < 64 → s.getLsbD i = (x.getLsbD i && decide (i < u))
theorem Rd.zero (x : W64) : Rd x 0#64 0 := fun i hi => by simp
theorem Rd.done {x s : W64} {u : Nat} (h : Rd x s u) (hu : 64 ≤ u) : s = x := by
 apply BitVec.eq_of_getLsbD_eq
 intro i hi
 rw [h i hi, decide_eq_true (by omega), Bool.and_true]
theorem Rd.skip {x s : W64} {u : Nat} (h : Rd x s u) (hb : x.getLsbD u = false) : Rd x s (u + 1) := fun i hi => by
 rw [h i hi]
 by_cases h1 : i = u
 · subst h1; rw [hb]; rfl
 · by_cases h2 : i < u
   · rw [decide_eq_true h2, decide_eq_true (show i < u + 1 by omega)]
   · rw [decide_eq_false h2, decide_eq_false (show ¬ i < u + 1 by omega)]
theorem Rd.range {x s : W64} {u n : Nat} (h : Rd x s u) (hb : ∀ i, u ≤ i → i < u + n → x.getLsbD i = true) : Rd x (rngW s u n) (u + n) := fun i hi => by
 rw [zqy s u i hi n, h i hi]
 by_cases h2 : i < u
 · rw [decide_eq_true h2, decide_eq_true (show i < u + n by omega), decide_eq_false (show ¬ (u ≤ i ∧ i < u + n) by omega)]; simp
 · by_cases h3 : i < u + n
   · rw [hb i (by omega) h3, decide_eq_true h3, decide_eq_true (show u ≤ i ∧ i < u + n by omega)]; simp
   · rw [decide_eq_false h2, decide_eq_false h3, decide_eq_false (show ¬ (u ≤ i ∧ i < u + n) by omega)]; simp
theorem zow {k : Nat} (h : k < 64) : vld (k : Int) = true := ybs (by omega)
theorem yfd {k : Nat} (h : k < 64) : rdW (dg k) = some (k, k) := by
 have hc := zr1 (dg k) 45 (zws h (by decide))
 rw [zu1 (k : Int) (k : Int) (by rw [hc]; exact zp8 h) (by rw [hc]; rfl), zow h]
 rfl
theorem yci {f l : Nat} (hf : f < 64) (hl : l < 64) : rdW (dg f ++ 45 :: dg l) = some (f, l) := by
 have hc := zww (dg f) (dg l) 45 (zws hf (by decide))
 rw [zu1 (f : Int) (l : Int) (by rw [hc]; exact zp8 hf) (by rw [hc]; exact zp8 hl), zow hf, zow hl]
 rfl
theorem zx2 (x : W64) : ∀ (n u : Nat) (s : W64), 64 - u ≤ n → u ≤ 64 → Rd x s u → rdL s (W x u) = some x
 | 0, u, s, hn, hu, h => by
  rw [ztz x (by omega)]
  show some s = some x
  rw [h.done (by omega)]
 | n + 1, u, s, hn, hu, h => by
  rcases Nat.lt_or_ge u 64 with hlt | hge
  · cases hb : x.getLsbD u
    · rw [yhe hb]
      exact zx2 x n (u + 1) s (by omega) (by omega) (h.skip hb)
    · have hg := zpw hb
      have hle := zwo (x := x) hu
      by_cases h2 : 2 ≤ eo x u - 1 - u
      · rw [yhd hb h2, zey, yci hlt (by omega)]
        dsimp only
        have h3 := h.range (n := eo x u - 1 + 1 - u) (fun i h4 h5 => yd3 h4 (by omega))
        rw [show u + (eo x u - 1 + 1 - u) = eo x u by omega] at h3
        exact zx2 x n (eo x u) _ (by omega) hle h3
      · rw [yep hb h2, zey, yfd hlt]
        dsimp only
        have h3 := h.range (n := u + 1 - u) (fun i h4 h5 => by obtain rfl : i = u := by omega
                                                               exact hb)
        rw [show u + (u + 1 - u) = u + 1 by omega] at h3
        exact zx2 x n (u + 1) _ (by omega) (by omega) h3
  · rw [ztz x hge]
    show some s = some x
    rw [h.done hge]
theorem ya4 (x : W64) : rdL 0#64 (W x 0) = some x := zx2 x 64 0 0#64 (by omega) (by omega) (Rd.zero x)
theorem W_ne {x : W64} (h : x ≠ 0#64) : W x 0 ≠ [] := fun he => by
 have := ya4 x
 rw [he] at this
 exact h (Option.some.inj this).symm
def Gw (w : By) : Prop := (∃ k, k < 64 ∧ w = dg k) ∨ ∃ f l, f < 64 ∧ l < 64 ∧ w = dg f ++ 45 :: dg l
theorem yhh (x : W64) (u : Nat) : ∀ w ∈ W x u, Gw w := zt0 x (fun k h => .inl ⟨k, h, rfl⟩) (fun f l hf hl => .inr ⟨f, l, hf, hl, rfl⟩) 64 u
theorem zwt {k : Nat} (h : k < 64) : ∃ c r, dg k = c :: r ∧ 48 ≤ c.toNat := by
 have h1 := yg5 k h
 have h2 := zgh h
 cases hd : dg k with
 | nil => exact absurd hd h1
 | cons c r => exact ⟨c, r, rfl, (h2 c (by rw [hd]; exact List.mem_cons_self ..)).1⟩
theorem Gw.head {w : By} (h : Gw w) : ∃ c r, w = c :: r ∧ 48 ≤ c.toNat := by
 rcases h with ⟨k, hk, rfl⟩ | ⟨f, l, hf, hl, rfl⟩
 · exact zwt hk
 · obtain ⟨c, r, h1, h2⟩ := zwt hf
   exact ⟨c, _, by rw [h1]; rfl, h2⟩
theorem zv2 : ∀ (L : List By), L ≠ [] → (∀ w ∈ L, Gw w) → ∃ c r, Lib.join L [44] = c :: r ∧ 48 ≤ c.toNat
 | [], h, _ => absurd rfl h
 | [w], _, h => by rw [Lib.join_one]; exact (h w (List.mem_cons_self ..)).head
 | w :: y :: r, _, h => by
  obtain ⟨c, q, h1, h2⟩ := (h w (List.mem_cons_self ..)).head
  exact ⟨c, _, by rw [za3, h1]; rfl, h2⟩
theorem ycj (x : W64) : rdS (fmtS x) = some x := by
 by_cases h0 : x = 0#64
 · subst h0; rfl
 by_cases h1 : x = BitVec.allOnes 64
 · subst h1; rfl
 rw [zro h0 h1]
 obtain ⟨c, r, hj, hc⟩ := zv2 (W x 0) (W_ne h0) (yhh x 0)
 have hw : wsOf (Lib.join (W x 0) [44]) = W x 0 := zgv 44 (W x 0) (W_ne h0) (fun w hw => (zsa x 0 w hw).2.2)
 unfold rdS
 rw [if_neg, if_neg, hw, ya4]
 · rw [hj]; intro he; injection he with e1 e2; subst e1; exact absurd hc (by decide)
 · rw [hj]; intro he; injection he with e1 e2; subst e1; exact absurd hc (by decide)
theorem zi2 (x : W64) : pzS (fmtS x) = (x, 0) := by
 unfold pzS; rw [ycj]; dsimp only; rw [if_pos rfl]
theorem zu3 (s : By) : (∃ x, fmtS x = s ∧ pzS s = (x, 0)) ∨ ((∀ x, fmtS x ≠ s) ∧ pzS s = (0#64, 4)) := by
 rcases Classical.em (∃ x, fmtS x = s) with ⟨x, h⟩ | h
 · subst h; exact .inl ⟨x, rfl, zi2 x⟩
 · refine .inr ⟨fun x hx => h ⟨x, hx⟩, ?_⟩
   unfold pzS
   cases hr : rdS s with
   | none => rfl
   | some x => dsimp only; rw [if_neg (fun hx => h ⟨x, hx⟩)]
/-! The specification's reader -/
end Go.Proofs.YtelanmknimapoaaGreatDoor.Gf
