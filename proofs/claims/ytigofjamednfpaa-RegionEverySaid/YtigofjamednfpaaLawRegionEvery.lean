/- The walk of the law. -/
import Derived.Test.YtigofjamednfpaaOverG
import Derived.Test.YtigofjamednfpaaClosed
import Derived.Test.YtigofjamednfpaaCame
import Derived.Deep.CutRange
namespace Go.Proofs.Ytigofjamednfpaa.Re
open Go.RowKit AM
/-- What the addresses before one have in common. -/
def Acc (f : RV → W64) (L : List RV) (r : R4) (row col : Int) (A : W64) : Prop :=
  ∀ b, b < 64 → (A.getLsbD b = true ↔ ∀ p q, has4 r p q = true → (q < row ∨ (q = row ∧ p < col)) → (f (ruleAt L (lastI L p q L.length))).getLsbD b = true)
theorem Acc.start (f : RV → W64) (L : List RV) (r : R4) : Acc f L r r.r1 r.c1 (BitVec.allOnes 64) := by
  intro b hb
  have h1 : (BitVec.allOnes 64).getLsbD b = true := by rw [BitVec.getLsbD_allOnes]; exact decide_eq_true hb
  refine ⟨fun _ p q hp hq => ?_, fun _ => h1⟩
  rw [has4_iff] at hp
  omega
theorem Acc.step {f : RV → W64} {L : List RV} {r : R4} {row col : Int} {A : W64} (h : Acc f L r row col A) (hp : has4 r col row = true) : Acc f L r row (col + 1) (A &&& f (ruleAt L (lastI L col row L.length))) := by
  intro b hb
  rw [BitVec.getLsbD_and, Bool.and_eq_true, h b hb]
  constructor
  · rintro ⟨h1, h2⟩ p q hpq hq
    by_cases he : q = row ∧ p = col
    · obtain ⟨rfl, rfl⟩ := he; exact h2
    · exact h1 p q hpq (by omega)
  · intro hh
    exact ⟨fun p q hpq hq => hh p q hpq (by omega), hh col row hp (by omega)⟩
theorem Acc.next {f : RV → W64} {L : List RV} {r : R4} {row : Int} {A : W64} (h : Acc f L r row (r.c2 + 1) A) : Acc f L r (row + 1) r.c1 A := by
  intro b hb
  rw [h b hb]
  constructor
  · intro hh p q hpq hq
    refine hh p q hpq ?_
    rw [has4_iff] at hpq
    omega
  · intro hh p q hpq hq
    refine hh p q hpq ?_
    rw [has4_iff] at hpq
    omega
theorem Acc.end {f : RV → W64} {L : List RV} {r : R4} {row : Int} {A : W64} (h : Acc f L r row r.c1 A) (hr : row = r.r2 + 1) (hg : gcE r L = 0) : ovr f r L = A := by
  apply BitVec.eq_of_getLsbD_eq
  intro b hb
  rw [Bool.eq_iff_iff, h b hb, ovr_iff hg hb]
  constructor
  · intro hh p q hpq _; exact hh p q hpq
  · intro hh p q hpq
    refine hh p q hpq ?_
    rw [has4_iff] at hpq
    omega
theorem Four.grown {w w' : World} {p q : Nat} {a b c d : Int} (h : Four w p a b c d) (hg : w.grownBy w' (some q)) (hne : p ≠ q) : Four w' p a b c d := by
  obtain ⟨h0, h1, h2, h3, h4⟩ := h
  have hk := hg.block p h0 (by intro e; injection e with e; exact hne e)
  have key : ∀ j, w'.cell? ⟨p, j, none⟩ = w.cell? ⟨p, j, none⟩ := fun j => World.cell?_of_block (a := ⟨p, j, none⟩) hk
  exact ⟨Nat.lt_of_lt_of_le h0 hg.size, (key _).trans h1, (key _).trans h2, (key _).trans h3, (key _).trans h4⟩
set_option maxRecDepth 100000 in
set_option maxHeartbeats 6400000 in
theorem regionEvery_any (r1 r2 r3 r4 : Int) (a : Option Addr) (len cap : Nat) (L : List RV) (w : World) (hL : IsL w a len L) :
    Calls Try.prog 4 #[.agg #[.int .i64 r1, .int .i64 r2, .int .i64 r3, .int .i64 r4], .slice a len cap] w fun e w' => e = .returned (.bool true) ∧ Below w.heap.size w w' := by
  have HL := Lib.hid hL
  have HLL := Lib.hid hL.1
  clear hL
  have HF := Lib.hid (Four.start w r1 r2 r3 r4 23)
  have HB := Lib.hid (below_alloc w (.cells #[.int .i64 r1, .int .i64 r2, .int .i64 r3, .int .i64 r4] 23))
  go_enter Try.func4, Try.ntmps4
  go_wp2_with fail
  generalize w.alloc (.cells #[.int .i64 r1, .int .i64 r2, .int .i64 r3, .int .i64 r4] 23) = w0 at *
  refine (valid20_any r1 r2 r3 r4 a len cap L _ (HL.out.later HB.out)).mono ?_
  rintro e w1 ⟨rfl, hB1⟩
  have HF1 := Lib.hid (HF.out.later hB1)
  have HB1 := Lib.hid (Below.next HB.out hB1)
  clear hB1 HF HB
  cases hok : okA ⟨r1, r2, r3, r4⟩ L
  · clear hok
    go_wp2_with fail
    go_ret
    exact ⟨rfl, HB1.out⟩
  · obtain ⟨h40, hg⟩ := okA_iff.1 hok
    have hl : len ≤ 40 := by have := HLL.out; omega
    have hck := (gcE_zero.1 hg).1
    have hrc := (gcE_zero.1 hg).2
    have hck4 := hck
    unfold R4.ck at hck4
    rw [ckB_iff] at hck4
    dsimp only at hck4
    have hp1 : 1 ≤ (r3 - r1 + 1) * (r4 - r2 + 1) := area_pos hck
    have hp2 : (r3 - r1 + 1) * (r4 - r2 + 1) ≤ 1048576 := area_max hck
    have HG := Lib.hid hg
    have HAT : Hid (∀ p q, has4 ⟨r1, r2, r3, r4⟩ p q = true → whE p q L = 0 ∧ atR p q L = ruleAt L (lastI L p q L.length)) := fun p q hp => by
      have ho : okR p q = true := by
        rw [has4_iff] at hp
        unfold okR
        apply decide_eq_true
        dsimp only at hp
        omega
      have e1 := (wh_ok ho hrc).2
      exact ⟨e1, by unfold atR; rw [if_pos e1]⟩
    have HE : Hid (overV ⟨r1, r2, r3, r4⟩ L = .tuple #[rights3 (ovr RV.rd ⟨r1, r2, r3, r4⟩ L) (ovr RV.wr ⟨r1, r2, r3, r4⟩ L) (ovr RV.ow ⟨r1, r2, r3, r4⟩ L), .int .i64 0]) := by
      unfold Hid overV ovV; rw [hg, if_pos rfl, if_pos rfl, if_pos rfl]
    clear hok h40 hg hck hrc
    obtain ⟨_, e1, e2, e3, e4⟩ := HF1.out
    by_cases hbig : (r3 - r1 + 1) * (r4 - r2 + 1) > 400
    · go_wp2_with fail
      go_ret
      exact ⟨rfl, HB1.out⟩
    · have hv0 := Bl3.start w1 18446744073709551615 18446744073709551615 18446744073709551615
      have hf0 := HF1.out.later (below_alloc w1 (.cells #[.int .u64 18446744073709551615, .int .u64 18446744073709551615, .int .u64 18446744073709551615] 28))
      have hb0 := Below.next HB1.out (below_alloc w1 (.cells #[.int .u64 18446744073709551615, .int .u64 18446744073709551615, .int .u64 18446744073709551615] 28))
      have HV0 := Lib.hid hv0
      have HF0 := Lib.hid hf0
      have HB0 := Lib.hid hb0
      have hs1 := HB1.out.size
      have hne : w.heap.size < w1.heap.size := HF1.out.1
      clear hv0 hf0 hb0
      go_wp2_with fail
      generalize w1.alloc (.cells #[.int .u64 18446744073709551615, .int .u64 18446744073709551615, .int .u64 18446744073709551615] 28) = w2 at *
      clear hp1 hp2 hbig e1 e2 e3 e4 HF1 HB1
      go_loopw [6] (fun z wr => ∃ (row : Int) (A1 A2 A3 : W64), r2 ≤ row ∧ row ≤ r4 + 1 ∧ z = .int .i64 row ∧ Hid (Bl3 wr w1.heap.size (A1.toNat : Int) (A2.toNat : Int) (A3.toNat : Int)) ∧ Hid (Acc RV.rd L ⟨r1, r2, r3, r4⟩ row r1 A1) ∧ Hid (Acc RV.wr L ⟨r1, r2, r3, r4⟩ row r1 A2) ∧ Hid (Acc RV.ow L ⟨r1, r2, r3, r4⟩ row r1 A3) ∧ Hid (Four wr w.heap.size r1 r2 r3 r4) ∧ Below w.heap.size w wr) (fun z _ => (r4 + 1 - intOf z).toNat)
      case atStart => exact ⟨r2, BitVec.allOnes 64, BitVec.allOnes 64, BitVec.allOnes 64, Int.le_refl _, by omega, rfl, HV0.out, Acc.start _ _ _, Acc.start _ _ _, Acc.start _ _ _, HF0.out, HB0.out⟩
      case round =>
        obtain ⟨row, A1, A2, A3, hr1, hr2, rfl, HVr, HA1, HA2, HA3, HFr, hBr⟩ := hrel
        have HBr := Lib.hid hBr
        clear hBr
        obtain ⟨_, e1, e2, e3, e4⟩ := HFr.out
        by_cases hlt : row ≤ r4
        · go_wp2_with fail
          clear e1 e2 e3 e4
          go_loopw [7] (fun z ws => ∃ (col : Int) (A1 A2 A3 : W64), r1 ≤ col ∧ col ≤ r3 + 1 ∧ z = .int .i64 col ∧ Hid (Bl3 ws w1.heap.size (A1.toNat : Int) (A2.toNat : Int) (A3.toNat : Int)) ∧ Hid (Acc RV.rd L ⟨r1, r2, r3, r4⟩ row col A1) ∧ Hid (Acc RV.wr L ⟨r1, r2, r3, r4⟩ row col A2) ∧ Hid (Acc RV.ow L ⟨r1, r2, r3, r4⟩ row col A3) ∧ Hid (Four ws w.heap.size r1 r2 r3 r4) ∧ Below w.heap.size w ws) (fun z _ => (r3 + 1 - intOf z).toNat)
          case atStart => exact ⟨r1, A1, A2, A3, Int.le_refl _, by omega, rfl, HVr.out, HA1.out, HA2.out, HA3.out, HFr.out, HBr.out⟩
          case round =>
            clear HVr HA1 HA2 HA3 HFr HBr A1 A2 A3
            obtain ⟨col, A1, A2, A3, hc1, hc2, rfl, HVs, HA1, HA2, HA3, HFs, hBs⟩ := hrel
            have HBs := Lib.hid hBs
            clear hBs
            obtain ⟨_, e1, e2, e3, e4⟩ := HFs.out
            by_cases hct : col ≤ r3
            · have hin : has4 ⟨r1, r2, r3, r4⟩ col row = true := by rw [has4_iff]; dsimp only; omega
              obtain ⟨z1, z2⟩ := HAT.out col row hin
              have HZ1 := Lib.hid z1
              have HZ2 := Lib.hid z2
              have HN1 := Lib.hid (HA1.out.step hin)
              have HN2 := Lib.hid (HA2.out.step hin)
              have HN3 := Lib.hid (HA3.out.step hin)
              clear z1 z2 hin
              go_wp2_with fail
              refine (aat_any col row a len cap L (by omega) _ (HL.out.later HBs.out)).mono ?_
              rw [HZ1.out, HZ2.out]
              rintro e w5 ⟨rfl, hB⟩
              have HF5 := Lib.hid (HFs.out.later hB)
              have HV5 := Lib.hid (HVs.out.later hB)
              have HB5 := Lib.hid (Below.next HBs.out hB)
              clear hB HFs HVs HBs HA1 HA2 HA3 HZ1 HZ2 e1 e2 e3 e4
              unfold rightsV
              generalize ruleAt L (lastI L col row L.length) = R at *
              obtain ⟨x1, x2, x3, x4, x5, x6, x7⟩ := R
              dsimp only at *
              obtain ⟨v1, v2, v3, f1, f2, f3⟩ := HV5.out.cells
              have hvl := HV5.out.lt
              have HW1 := Lib.hid (bits_and A1 x5)
              have HW2 := Lib.hid (bits_and A2 x6)
              have HW3 := Lib.hid (bits_and A3 x7)
              go_wp2_with fail
              rw [HW1.out, HW2.out, HW3.out]
              obtain ⟨hv2, hgr⟩ := HV5.out.set ((A1 &&& x5).toNat : Int) ((A2 &&& x6).toNat : Int) ((A3 &&& x7).toNat : Int)
              have hf2 := HF5.out.grown hgr (by omega)
              have hbel := HB5.out.grown hgr HB5.out.size (fun q hq => by injection hq with hq; omega)
              clear hgr
              generalize ((w5.setCell ⟨w1.heap.size, 0, none⟩ (.int .u64 ((A1 &&& x5).toNat : Int))).setCell ⟨w1.heap.size, 1, none⟩ (.int .u64 ((A2 &&& x6).toNat : Int))).setCell ⟨w1.heap.size, 2, none⟩ (.int .u64 ((A3 &&& x7).toNat : Int)) = ws at *
              exact ⟨⟨col + 1, A1 &&& x5, A2 &&& x6, A3 &&& x7, by omega, by omega, rfl, hv2.later (below_alloc _ _), HN1.out, HN2.out, HN3.out, hf2.later (below_alloc _ _), hbel.alloc hbel.size _⟩, by simp [intOf]; omega⟩
            · obtain rfl : col = r3 + 1 := by omega
              have HN1 : Hid (Acc RV.rd L ⟨r1, r2, r3, r4⟩ (row + 1) r1 A1) := HA1.out.next
              have HN2 : Hid (Acc RV.wr L ⟨r1, r2, r3, r4⟩ (row + 1) r1 A2) := HA2.out.next
              have HN3 : Hid (Acc RV.ow L ⟨r1, r2, r3, r4⟩ (row + 1) r1 A3) := HA3.out.next
              go_wp2_with fail
              exact ⟨⟨row + 1, A1, A2, A3, by omega, by omega, rfl, HVs.out, HN1.out, HN2.out, HN3.out, HFs.out, HBs.out⟩, by simp [intOf]; omega⟩
        · have hre : row = r4 + 1 := by omega
          have X1 := Lib.hid (HA1.out.end (r := ⟨r1, r2, r3, r4⟩) hre HG.out)
          have X2 := Lib.hid (HA2.out.end (r := ⟨r1, r2, r3, r4⟩) hre HG.out)
          have X3 := Lib.hid (HA3.out.end (r := ⟨r1, r2, r3, r4⟩) hre HG.out)
          clear HA1 HA2 HA3
          go_wp2_with fail
          refine (over_any r1 r2 r3 r4 a len cap L (by omega) _ (HL.out.later HBr.out)).mono ?_
          rw [HE.out, X1.out, X2.out, X3.out]
          rintro e w5 ⟨rfl, hB⟩
          obtain ⟨v1, v2, v3, f1, f2, f3⟩ := (HVr.out.later hB).cells
          have hvl := (HVr.out.later hB).lt
          have HB5 := Lib.hid (Below.next (Below.next HBr.out hB) (below_alloc w5 (.cells #[.int .u64 (A1.toNat : Int), .int .u64 (A2.toNat : Int), .int .u64 (A3.toNat : Int)] 28)))
          clear hB HFr HVr HBr e1 e2 e3 e4 HE X1 X2 X3
          unfold rights3
          go_wp2_with fail
          refine (Go.Proofs.Ytigofjamednfpaa.example20 _).mono ?_
          rintro e wE ⟨rfl, hBE⟩
          have HBE := Lib.hid (Below.next HB5.out hBE)
          go_wp2_with fail
          go_ret
          exact ⟨rfl, HBE.out⟩
end Go.Proofs.Ytigofjamednfpaa.Re
