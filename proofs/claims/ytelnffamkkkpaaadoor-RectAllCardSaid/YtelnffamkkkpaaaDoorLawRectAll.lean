/- The walk of the law. -/
import Derived.Test.YtelnffamkkkpaaaDoorRectW
import Derived.Test.YtelnffamkkkpaaaDoorRectR
import Derived.Test.YtelnffamkkkpaaaDoorRectU
import Derived.Test.YtelnffamkkkpaaaDoorRectKnown
import Derived.Test.YtelnffamkkkpaaaDoorCameR
import Derived.Deep.RegionHeld3
import Derived.Deep.RegionLaw
import Derived.Deep.CutRange
namespace Go.Proofs.YtelnffamkkkpaaaDoor
open Go.RowKit AM
theorem refL_at (c r : Int) (n m : Nat) (i : Nat) (h : i < m * n) : ∃ h' : i < (refL c r n m).length, (refL c r n m)[i] = (c + ((i % n : Nat) : Int), r + ((i / n : Nat) : Int)) := by
  have hn : 0 < n := by
    rcases Nat.eq_zero_or_pos n with h0 | h0
    · subst h0; simp at h
    · exact h0
  refine ⟨by rw [refL_len]; exact h, ?_⟩
  induction m with
  | zero => simp at h
  | succ m ih =>
    have e := refL_succ c r n m
    have hlen : (refL c r n m).length = m * n := refL_len c r n m
    have hrow : ∀ row, (rowL c n row).length = n := fun row => by unfold rowL; simp
    by_cases hi : i < m * n
    · have := ih hi
      rw [← this]
      simp only [e]
      rw [List.getElem_append_left (by rw [hlen]; exact hi)]
    · have hk : i - m * n < n := by rw [Nat.add_mul] at h; omega
      have e1 : i / n = m := by
        rw [show i = n * m + (i - m * n) by rw [Nat.mul_comm]; omega, Nat.mul_add_div hn, Nat.div_eq_of_lt hk, Nat.add_zero]
      have e2 : i % n = i - m * n := by
        conv => lhs; rw [show i = n * m + (i - m * n) by rw [Nat.mul_comm]; omega]
        rw [Nat.mul_add_mod, Nat.mod_eq_of_lt hk]
      simp only [e]
      rw [List.getElem_append_right (by rw [hlen]; omega)]
      unfold rowL
      simp [e1, e2, hlen]
theorem isOf_newL {α : Type} {c : α → List Value} {n : Nat} (hn : ∀ x, (c x).length = n) (w : World) (cs : Array Value) (t : TypeId) (M : List α) (h : cs = (M.flatMap c).toArray) : IsOf c n (w.alloc (.cells cs t)) (some ⟨w.heap.size, 0, none⟩) M.length M := by
  subst h
  refine ⟨rfl, fun _ => ⟨w.heap.size, 0, rfl, by simp, fun k hk j v hv => ?_⟩⟩
  have hj : j < n := by rw [← hn M[k]]; exact (List.getElem?_eq_some_iff.1 hv).1
  have := flat_at hn M k hk j hj
  rw [hv] at this
  simp [this]
theorem cov_bool {a b c d : Int} {l : List R4} {W H N : Nat} (hc : ckB a b c d = true) (hl : ∀ x ∈ l, x.ck = true) (hW : c - a + 1 = W) (hH : d - b + 1 = H) (hN : H * W = N) : covB ⟨a, b, c, d⟩ l = allI ⟨a, b, c, d⟩ l N ∧ covE ⟨a, b, c, d⟩ l = 0 := by
  have h := cov_t (r := ⟨a, b, c, d⟩) (l := l) (by rw [Bool.and_eq_true]; exact ⟨hc, List.all_eq_true.2 hl⟩)
  refine ⟨?_, h.2⟩
  rw [h.1, cov_all (r := ⟨a, b, c, d⟩) hc hl W H hW hH, Nat.mul_comm, hN]
theorem allI_turn {r x0 : R4} {l : List R4} (h : x0 ∈ l) (i : Nat) : allI r (turnL l x0 0) i = allI r l i := by
  unfold allI
  congr 1
  funext j
  exact turn_in h _ _
def Want (wb : World) (p q : Int) (v : Value) (wx : World) : Prop := v = .pointer (some ⟨wb.heap.size, 0, none⟩) ∧ Below wb.heap.size wb wx ∧ Two' wx wb.heap.size p q
set_option maxRecDepth 100000 in
set_option maxHeartbeats 6400000 in
theorem rectAll_law (a b c d : Int) (la : Option Addr) (n cap : Nat) (l : List R4) (w : World) (hr0 : IsOf cells4 4 w la n l) :
    Calls Tryd.prog 4 #[.agg #[.int .i64 a, .int .i64 b, .int .i64 c, .int .i64 d], .slice la n cap] w fun e w' => e = .returned (.bool true) ∧ Below w.heap.size w w' := by
  have HR := Lib.hid (isR_of hr0)
  have HLL := Lib.hid hr0.1
  have HF := Lib.hid (Four.start w a b c d 23)
  have HB0 := Lib.hid (below_alloc w (.cells #[.int .i64 a, .int .i64 b, .int .i64 c, .int .i64 d] 23))
  clear hr0
  go_enter Tryd.func4, Tryd.ntmps4
  go_wp2_with fail
  refine (small_any a b c d _).mono ?_
  rintro e w1 ⟨rfl, hB1⟩
  have HB1 := Lib.hid (Below.next HB0.out hB1)
  have HF1 := Lib.hid (HF.out.later hB1)
  clear hB1 HB0 HF
  cases hs : smB a b c d
  · clear hs
    go_wp2_with fail
    refine (knownR_any _).mono ?_
    rintro e w2 ⟨rfl, hB2⟩
    have HB2 := Lib.hid (Below.next HB1.out hB2)
    clear hB2
    go_wp2_with fail
    go_ret
    exact ⟨rfl, HB2.out⟩
  by_cases hn : 12 < n
  · clear hs
    go_wp2_with fail
    refine (knownR_any _).mono ?_
    rintro e w2 ⟨rfl, hB2⟩
    have HB2 := Lib.hid (Below.next HB1.out hB2)
    clear hB2
    go_wp2_with fail
    go_ret
    exact ⟨rfl, HB2.out⟩
  have hck : ckB a b c d = true := by unfold smB at hs; rw [Bool.and_eq_true] at hs; exact hs.1
  have h400 : (c - a + 1) * (d - b + 1) ≤ 400 := by unfold smB at hs; rw [Bool.and_eq_true] at hs; exact of_decide_eq_true hs.2
  have hcb := ckB_iff.1 hck
  obtain ⟨W, hW⟩ : ∃ W : Nat, c - a + 1 = W := ⟨(c - a + 1).toNat, by omega⟩
  obtain ⟨H, hH⟩ : ∃ H : Nat, d - b + 1 = H := ⟨(d - b + 1).toNat, by omega⟩
  have hWH : W * H ≤ 400 := by rw [hW, hH] at h400; exact_mod_cast h400
  obtain ⟨N, hNe⟩ : ∃ N, H * W = N := ⟨_, rfl⟩
  have HNe := Lib.hid hNe
  have hWHN : (W : Int) * (H : Int) = (N : Int) := by rw [← hNe]; push_cast; exact Int.mul_comm _ _
  have hN400 : N ≤ 400 := by rw [← hNe, Nat.mul_comm]; exact hWH
  have HRL := Lib.hid (rfL_t hck hW hH (by omega))
  have HRE := Lib.hid (rfE_t hck hW hH (by omega))
  have HAR : Hid (arV a b c d = (N : Int)) := by unfold Hid; rw [arV_t hck, hW, hH, hWHN]
  have HCK := Lib.hid hck
  have hd12 : decide ((12 : Int) < (n : Int)) = false := by simp; omega
  clear hs h400 hNe hWH
  go_wp2_with fail
  go_loopw [5] (fun i wr => ∃ k : Nat, k ≤ n ∧ i = .int .i64 k ∧ (l.take k).all R4.ck = true ∧ Below w.heap.size w wr ∧ Four wr w.heap.size a b c d) (fun i _ => n - (intOf i).toNat)
  case atStart => exact ⟨0, Nat.zero_le _, rfl, rfl, HB1.out, HF1.out⟩
  case round =>
    generalize wr = wa at *
    obtain ⟨k, hk, rfl, ha, hB, hF⟩ := hrel
    have HA := Lib.hid ha
    have HB := Lib.hid hB
    have HFr := Lib.hid hF
    clear ha hB hF HF1 HB1
    by_cases hlt : k < n
    · obtain ⟨bb, off, rfl, hrr⟩ := (HR.out.later HB.out).2 (by omega)
      have hkl : k < l.length := by rw [HLL.out]; exact hlt
      obtain ⟨c1, c2, c3, c4⟩ := hrr.2 k hkl
      have HS := Lib.hid (all_snoc l k hkl HA.out)
      unfold R4.ck at HS
      clear hrr
      generalize l[k] = r at *
      obtain ⟨x1, x2, x3, x4⟩ := r
      dsimp only at *
      go_wp2_with fail
      refine (rcheck_any x1 x2 x3 x4 _).mono ?_
      rintro e w2 ⟨rfl, hB2⟩
      have HB2 := Lib.hid (Below.next HB.out hB2)
      have HF2 := Lib.hid (HFr.out.later hB2)
      clear hB2 c1 c2 c3 c4
      cases hcx : ckB x1 x2 x3 x4
      · rw [ckE_f hcx]
        clear hcx
        go_wp2_with fail
        refine (knownR_any _).mono ?_
        rintro e w3 ⟨rfl, hB3⟩
        have HB3 := Lib.hid (Below.next HB2.out hB3)
        clear hB3
        go_wp2_with fail
        go_ret
        exact ⟨rfl, HB3.out⟩
      · have HS2 := Lib.hid (HS.out hcx)
        rw [ckE_t hcx]
        clear hcx
        go_wp2_with fail
        go_roundw
        case rel => exact ⟨k + 1, by omega, by go_num, HS2.out, HB2.out, HF2.out⟩
        case measure => simp [intOf]; omega
    · obtain rfl : k = n := by omega
      have hal : l.all R4.ck = true := by have := HA.out; rwa [List.take_of_length_le (by rw [HLL.out]; exact Nat.le_refl _)] at this
      have HALL : Hid (∀ x ∈ l, x.ck = true) := fun x hx => List.all_eq_true.1 hal x hx
      clear hal HA
      obtain ⟨_, f1, f2, f3, f4⟩ := HFr.out
      go_wp2_with fail
      refine (refs_any a b c d _).mono ?_
      rintro e w2 ⟨⟨qv, rfl, ho⟩, hB2⟩
      rw [HRL.out] at ho
      rw [HRE.out]
      obtain ⟨qa, qcap, rfl, hq⟩ := ho.isQ
      rw [refL_len, HNe.out] at hq ⊢
      have HB2 := Lib.hid (Below.next HB.out hB2)
      have HF2 := Lib.hid (HFr.out.later hB2)
      have HQ2 := Lib.hid hq
      clear hB2 ho hq f1 f2 f3 f4 HB HFr
      obtain ⟨_, f1, f2, f3, f4⟩ := HF2.out
      go_wp2_with fail
      refine (area_any a b c d _).mono ?_
      rintro e w3 ⟨rfl, hB3⟩
      rw [HAR.out, ckE_t HCK.out]
      have HB3 := Lib.hid (Below.next HB2.out hB3)
      have HF3 := Lib.hid (HF2.out.later hB3)
      have HQ3 := Lib.hid (HQ2.out.later hB3)
      clear hB3 f1 f2 f3 f4 HB2 HF2 HQ2
      obtain ⟨_, f1, f2, f3, f4⟩ := HF3.out
      go_wp2_with fail
      have hW1 : 1 ≤ W := by omega
      have hW2 : W ≤ 1024 := by omega
      go_loopw [10, 11] (fun al i wr => ∃ j : Nat, j ≤ N ∧ i = .int .i64 j ∧ al = .bool (allI ⟨a, b, c, d⟩ l j) ∧ Below w.heap.size w wr ∧ Four wr w.heap.size a b c d ∧ IsQ wr qa N (refL a b W H)) (fun _ i _ => N - (intOf i).toNat)
      case atStart => exact ⟨0, Nat.zero_le _, rfl, rfl, HB3.out, HF3.out, HQ3.out⟩
      case round =>
        generalize wr = wb at *
        obtain ⟨j, hj, rfl, rfl, hB, hF, hQ⟩ := hrel
        have HB := Lib.hid hB
        have HFr := Lib.hid hF
        have HQ := Lib.hid hQ
        clear hB hF hQ HF3 HB3 HQ3 f1 f2 f3 f4
        by_cases hjl : j < N
        · have hAS := allI_succ ⟨a, b, c, d⟩ l j
          dsimp only at hAS
          rw [hW] at hAS
          have HAS := Lib.hid hAS
          obtain ⟨hh, hat⟩ := refL_at a b W H j (by rw [HNe.out]; exact hjl)
          obtain ⟨qb, qo, rfl, hq⟩ := HQ.out.2 (by omega)
          have hqc := hq.2 j hh
          rw [hat] at hqc
          have em : ((j % W : Nat) : Int) = (j : Int) % (W : Int) := by simp
          have ed : ((j / W : Nat) : Int) = (j : Int) / (W : Int) := by simp
          rw [em, ed] at hqc
          have HQC := Lib.hid hqc
          have m0 : 0 ≤ (j : Int) % (W : Int) := Int.emod_nonneg _ (by omega)
          have m1 : (j : Int) % (W : Int) < (W : Int) := Int.emod_lt_of_pos _ (by omega)
          have m2 : 0 ≤ (j : Int) / (W : Int) := Int.ediv_nonneg (by omega) (by omega)
          have m3 : (j : Int) / (W : Int) ≤ (j : Int) := Int.ediv_le_self _ (by omega)
          have hqb0 := hq.1
          clear hAS hh hat hqc hq em ed
          obtain ⟨_, f1, f2, f3, f4⟩ := HFr.out
          have hqb := hqb0
          obtain ⟨k1, k2⟩ := HQC.out
          dsimp only at k1 k2
          go_wp2_with fail
          go_cut [12] from 78 to 117 (fun v wx => Want wb (a + (j : Int) % (W : Int)) (b + (j : Int) / (W : Int)) v wx)
          case first =>
            clear HAS HQC k1 k2 hqb HALL HR HQ HB HLL HCK HRE HRL HAR HNe
            go_region
            go_wp2_with fail
            go_meet
            exact ⟨rfl, (below_alloc _ _).drew, Two'.start wb _ _ _⟩
          case rest =>
          obtain ⟨rfl, l4, ht4⟩ := hcut
          generalize wc = w5 at *
          have HB5 := Lib.hid (Below.next HB.out l4)
          have HF5 := Lib.hid (HFr.out.later l4)
          have HQ5 := Lib.hid (HQ.out.later l4)
          have g1 : w5.cell? ⟨qb, qo + j * 2, none⟩ = some (.int .i64 (a + (j : Int) % (W : Int))) := by rw [(bcell l4).1 _ _ hqb]; exact k1
          have g2 : w5.cell? ⟨qb, qo + j * 2 + 1, none⟩ = some (.int .i64 (b + (j : Int) / (W : Int))) := by rw [(bcell l4).1 _ _ hqb]; exact k2
          clear k1 k2 l4 m0 m1 m2 m3 hqb hqb0 HQC
          generalize a + (j : Int) % (W : Int) = p at *
          generalize b + (j : Int) / (W : Int) = q at *
          obtain ⟨_, t1, t2⟩ := ht4
          cases hal : allI ⟨a, b, c, d⟩ l j
          · have HAL := Lib.hid hal
            clear hal
            go_wp2_with fail
            go_quiet (fail)
            go_wp2_with fail
            go_roundw
            case rel => exact ⟨j + 1, by omega, by go_num, by rw [HAS.out, HAL.out]; rfl, drewN_below HB5.out _, HF5.out, HQ5.out⟩
            case measure => simp [intOf]; omega
          · have HAL := Lib.hid hal
            clear hal
            go_wp2_with fail
            go_quiet (fail)
            go_wp2_with fail
            refine (in_any p q la k cap l (by omega) _ (HR.out.later (drewN_below HB5.out _))).mono ?_
            rintro e w6 ⟨rfl, hB6⟩
            have HB6 := Lib.hid (Below.next (drewN_below HB5.out _) hB6)
            have HF6 := Lib.hid (Four.later (w := w5.drewN _) HF5.out hB6)
            have HQ6 := Lib.hid (IsQ.later (w := w5.drewN _) HQ5.out hB6)
            clear hB6 g1 g2 t1 t2 f1 f2 f3 f4
            go_wp2_with fail
            go_roundw
            case rel => exact ⟨j + 1, by omega, by go_num, by rw [HAS.out, HAL.out]; rfl, HB6.out, HF6.out, HQ6.out⟩
            case measure => simp [intOf]; omega
        · obtain rfl : j = N := by omega
          obtain ⟨x0, hx0⟩ : ∃ x0 : R4, (∀ h : 0 < l.length, l[0] = x0) ∧ (0 < l.length → x0 ∈ l) := by
            by_cases h : 0 < l.length
            · exact ⟨l[0], fun _ => rfl, fun _ => List.getElem_mem h⟩
            · exact ⟨⟨0, 0, 0, 0⟩, fun h' => absurd h' h, fun h' => absurd h' h⟩
          have HX0 := Lib.hid hx0
          have HTS := Lib.hid (fun q h => turn_step l x0 q h)
          have HTL := Lib.hid (fun q => turn_len l x0 q)
          have HTE : Hid (turnL l x0 k = []) := by have := turn_end l x0; rw [HLL.out] at this; exact this
          clear hx0
          go_wp2_with fail
          go_loopw [13, 14] (fun v i wr => ∃ q : Nat, q ≤ k ∧ i = .int .i64 ((q : Int) - 1) ∧ OwnR wb.heap.size wr v (turnL l x0 q) ∧ Below wb.heap.size wb wr) (fun _ i _ => (intOf i + 1).toNat)
          case atStart => exact ⟨k, Nat.le_refl _, rfl, by rw [HTE.out]; exact OwnR.nil _ _, Below.refl _ _⟩
          case round =>
            generalize wr = wc at *
            obtain ⟨q, hq, rfl, ho, hB⟩ := hrel
            obtain ⟨va, vc, rfl, _⟩ := ho.isR
            have HO := Lib.hid ho
            have HBb := Lib.hid hB
            have HBc := Lib.hid (Below.next HB.out hB)
            clear ho hB
            cases q with
            | zero =>
              obtain ⟨ta, tcap, et, ht⟩ := HO.out.isR
              obtain ⟨rfl, rfl⟩ : va = ta ∧ vc = tcap := by simpa using et
              clear et
              have HT := Lib.hid ht
              have HFc := Lib.hid (HFr.out.later HBb.out)
              obtain ⟨_, f1, f2, f3, f4⟩ := HFc.out
              have HC1 := Lib.hid (cov_bool HCK.out HALL.out hW hH HNe.out)
              have HMem : Hid (∀ x ∈ turnL l x0 0, x.ck = true) := fun x hx => by
                by_cases h : 0 < l.length
                · exact HALL.out x ((turn_mem (HX0.out.2 h) x).1 hx)
                · have : l = [] := List.eq_nil_of_length_eq_zero (by omega)
                  subst this
                  simp [turnL] at hx
              have HC2 := Lib.hid (cov_bool HCK.out HMem.out hW hH HNe.out)
              have HC3 : Hid (allI ⟨a, b, c, d⟩ (turnL l x0 0) j = allI ⟨a, b, c, d⟩ l j) := by
                by_cases h : 0 < l.length
                · exact allI_turn (HX0.out.2 h) j
                · have : l = [] := List.eq_nil_of_length_eq_zero (by omega)
                  subst this
                  rfl
              have HLn : Hid ((turnL l x0 0).length ≤ 1000) := by unfold Hid; rw [HTL.out]; have := HLL.out; omega
              clear ht
              go_wp2_with fail
              refine (covers_any a b c d la k cap l (by omega) _ (HR.out.later HBc.out)).mono ?_
              rw [HC1.out.1, HC1.out.2]
              rintro e w5 ⟨rfl, hB5⟩
              have HB5 := Lib.hid (Below.next HBc.out hB5)
              have HF5 := Lib.hid (HFc.out.later hB5)
              have HT5 := Lib.hid (HT.out.later hB5)
              clear hB5 f1 f2 f3 f4 HFc HT
              obtain ⟨_, f1, f2, f3, f4⟩ := HF5.out
              go_wp2_with fail
              refine (covers_any a b c d va _ vc (turnL l x0 0) HLn.out _ HT5.out).mono ?_
              rw [HC2.out.1, HC2.out.2, HC3.out]
              rintro e w6 ⟨rfl, hB6⟩
              have HB6 := Lib.hid (Below.next HB5.out hB6)
              clear hB6
              generalize allI ⟨a, b, c, d⟩ l j = z at *
              go_wp2_with fail
              refine (knownR_any _).mono ?_
              rintro e w7 ⟨rfl, hB7⟩
              have HB7 := Lib.hid (Below.next HB6.out hB7)
              clear hB7
              go_wp2_with fail
              go_ret
              exact ⟨rfl, HB7.out⟩
            | succ s =>
              rw [show ((s + 1 : Nat) : Int) - 1 = (s : Int) by omega]
              have hsl : s < l.length := by rw [HLL.out]; omega
              have hsk : s < k := by omega
              have hk0 : 0 < k := by omega
              obtain ⟨bb, off, rfl, hrr⟩ := (HR.out.later HBc.out).2 (by omega)
              obtain ⟨c1, c2, c3, c4⟩ := hrr.2 s hsl
              have hc0 := hrr.2 0 (by omega)
              rw [Nat.zero_mul, Nat.add_zero, HX0.out.1 (by omega)] at hc0
              obtain ⟨e1, e2, e3, e4⟩ := hc0
              have HS := Lib.hid (HTS.out s hsl)
              have HLn : Hid (((turnL l x0 (s + 1)).length + 2) * 32 ≤ 140737488355328) := by unfold Hid; rw [HTL.out]; have := HLL.out; omega
              clear hrr
              generalize l[s] = y at *
              obtain ⟨y1, y2, y3, y4⟩ := y
              obtain ⟨z1, z2, z3, z4⟩ := x0
              dsimp only at *
              go_wp2_with fail
              go_region_law (first
                | (refine step_appOf rfl (.tmp 125) (.tmp 133) 24 rfl Tryd.underlying24 _ 32 infoRect4 zero4 (by decide) (by decide) cells4_len cells4_one wb.heap.size _ (turnL l ⟨z1, z2, z3, z4⟩ (s + 1)) rfl (HO.out.alloc _) _ 2 2 [⟨y1, y2, y3, y4⟩, ⟨z1, z2, z3, z4⟩] rfl (isOf_newL cells4_len _ _ _ [⟨y1, y2, y3, y4⟩, ⟨z1, z2, z3, z4⟩] rfl) HLn.out (by have := HBb.out.size; simp; omega) ?_
                   intro v3 w3 ho3 hb3
                   rw [← HS.out] at ho3
                   have HO3 := Lib.hid ho3
                   have HB3 := Lib.hid hb3
                   clear ho3 hb3))
              all_goals
                go_wp2_with fail
                go_roundw
                case rel => exact ⟨s, by omega, by go_num, HO3.out, ((HBb.out.drew).alloc (by have := HBb.out.size; simp; omega) _).trans HB3.out⟩
                case measure => simp [intOf]
end Go.Proofs.YtelnffamkkkpaaaDoor
