/- The specification's For; the program's For where the arguments are not valid. -/
import Derived.Test.YtndijajaddkbhaaGraD
namespace Go.Proofs.Ytndijajaddkbhaa.Re
open Go Go.RowKit AM
theorem forE_rel {f : Nat} {r : R4} {L : List RV} {G : List GV} (h : relB f = false) : forE f r L G = 2 := by
  unfold forE
  rw [if_pos (Classical.not_not.1 fun hc => by rw [relB_only.2 hc] at h; cases h)]
theorem forE_rect {f : Nat} {r : R4} {L : List RV} {G : List GV} (h : relB f = true) (hr : ckB r.c1 r.r1 r.c2 r.r2 = false) : forE f r L G = 3 := by
  have hg : gcE r L = 3 := by unfold gcE; rw [hr]; rfl
  unfold forE
  rw [if_neg (relB_only.1 h), hg]; rfl
theorem forE_rules {f : Nat} {r : R4} {L : List RV} {G : List GV} (h : relB f = true) (hr : ckB r.c1 r.r1 r.c2 r.r2 = true) (hL : ¬ (rck 64 L).2 = 0) : forE f r L G = (rck 64 L).2 := by
  have hg : gcE r L = (rck 64 L).2 := by unfold gcE; rw [hr]; rfl
  unfold forE
  rw [if_neg (relB_only.1 h), hg, if_neg hL]
theorem forE_grants {f : Nat} {r : R4} {L : List RV} {G : List GV} (h : relB f = true) (hr : ckB r.c1 r.r1 r.c2 r.r2 = true) (hL : (rck 64 L).2 = 0) : forE f r L G = (gck 64 G).2 := by
  have hg : gcE r L = 0 := by unfold gcE; rw [hr]; exact hL
  unfold forE
  rw [if_neg (relB_only.1 h), hg, if_pos rfl]
theorem forL_bad {f : Nat} {r : R4} {L : List RV} {G : List GV} (h : ¬ forE f r L G = 0) : forL f r L G = [] := by unfold forL; rw [if_neg h]
theorem forL_ok {f : Nat} {r : R4} {L : List RV} {G : List GV} (h : forE f r L G = 0) : forL f r L G = liveL (fun g => kindB r f g && lvB g L) G G.length := by unfold forL; rw [if_pos h]
/-- What is returned where the arguments are not valid. -/
theorem retBad {B : Nat} {f : Nat} {r : R4} {L : List RV} {G : List GV} {x : Int} {w' : World} (h : forE f r L G = x) (h0 : ¬ x = 0) :
    ∃ v, Ending.returned (.tuple #[.int .u64 0, .slice none 0 0, .int .i64 x]) = Ending.returned (.tuple #[.int .u64 ((toW (forL f r L G)).toNat : Int), v, .int .i64 (forE f r L G)]) ∧ OwnN B w' v (byL (forL f r L G)) := by
  rw [forL_bad (by rw [h]; exact h0), h]
  exact ⟨_, rfl, OwnOf.nil _ _ _ _ _⟩
theorem beqI_f' {a b : Int} (h : ¬ a = b) : (a == b) = false := by simpa using h
set_option maxRecDepth 100000 in
set_option maxHeartbeats 12800000 in
theorem sfor_any (f : Nat) (hf : f < 256) (r1 r2 r3 r4 : Int) (ra : Option Addr) (rn rc : Nat) (L : List RV) (ga : Option Addr) (gn gc : Nat) (G : List GV) (w : World) (hL : IsL w ra rn L) (hG : IsG w ga gn G) :
    Calls Try.prog 31 #[.int .u8 (f : Int), .agg #[.int .i64 r1, .int .i64 r2, .int .i64 r3, .int .i64 r4], .slice ra rn rc, .slice ga gn gc] w fun e w' =>
      (∃ v, e = .returned (.tuple #[.int .u64 ((toW (forL f ⟨r1, r2, r3, r4⟩ L G)).toNat : Int), v, .int .i64 (forE f ⟨r1, r2, r3, r4⟩ L G)]) ∧ OwnN w.heap.size w' v (byL (forL f ⟨r1, r2, r3, r4⟩ L G))) ∧ Below w.heap.size w w' := by
  have HL := Lib.hid hL
  have HG := Lib.hid hG
  have HLL := Lib.hid hL.1
  have HGL := Lib.hid hG.1
  clear hL hG
  have HF0 := Lib.hid (Four.start w r1 r2 r3 r4 30)
  have HB0 := Lib.hid (below_alloc w (.cells #[.int .i64 r1, .int .i64 r2, .int .i64 r3, .int .i64 r4] 30))
  have HRE := Lib.hid (released_any f hf)
  go_enter Try.func31, Try.ntmps31
  go_wp2_with fail
  generalize w.alloc (.cells #[.int .i64 r1, .int .i64 r2, .int .i64 r3, .int .i64 r4] 30) = w0 at *
  refine (HRE.out _).mono ?_
  rintro e w' ⟨rfl, rfl⟩
  cases hre : relB f
  · have HE := Lib.hid (retBad (B := w.heap.size) (L := L) (G := G) (r := ⟨r1, r2, r3, r4⟩) (w' := w0) (forE_rel hre) (by decide))
    clear hre
    go_wp2_with fail
    go_ret3
    exact ⟨HE.out, HB0.out⟩
  have HR1 := Lib.hid hre
  clear hre
  obtain ⟨_, e1, e2, e3, e4⟩ := HF0.out
  go_wp2_with fail
  clear e1 e2 e3 e4
  refine (srange_any r1 r2 r3 r4 _).mono ?_
  rintro e w1 ⟨rfl, hB1⟩
  have HF1 := Lib.hid (HF0.out.later hB1)
  have HB1 := Lib.hid (Below.next HB0.out hB1)
  clear hB1 HF0 HB0
  cases hck : ckB r1 r2 r3 r4
  · have HE := Lib.hid (retBad (B := w.heap.size) (L := L) (G := G) (r := ⟨r1, r2, r3, r4⟩) (w' := w1) (forE_rect HR1.out hck) (by decide))
    clear hck
    go_wp2_with fail
    go_ret3
    exact ⟨HE.out, HB1.out⟩
  have HCK := Lib.hid hck
  clear hck
  go_wp2_with fail
  refine (scheck_big 64 ra rn rc L _ (HL.out.later HB1.out)).mono ?_
  rintro e w2 ⟨rfl, hB2⟩
  have HF2 := Lib.hid (HF1.out.later hB2)
  have HB2 := Lib.hid (Below.next HB1.out hB2)
  clear hB2 HF1 HB1
  unfold ckV
  generalize (rck 64 L).1 = q1
  by_cases hrk : (rck 64 L).2 = 0
  rotate_left
  · have HE := Lib.hid (retBad (B := w.heap.size) (L := L) (G := G) (r := ⟨r1, r2, r3, r4⟩) (w' := w2) (forE_rules HR1.out HCK.out hrk) hrk)
    generalize (rck 64 L).2 = q2 at *
    have hb1 : (q2 == 0) = false := by simpa using hrk
    have hb2 : (q2 != 0) = true := by simpa using hrk
    go_wp2_with fail
    go_ret3
    exact ⟨HE.out, HB2.out⟩
  have HRK := Lib.hid hrk
  rw [hrk]
  clear hrk
  go_wp2_with fail
  refine (pscheck_any 64 ga gn gc G _ (HG.out.later HB2.out)).mono ?_
  rintro e w3 ⟨rfl, hB3⟩
  have HF3 := Lib.hid (HF2.out.later hB3)
  have HB3 := Lib.hid (Below.next HB2.out hB3)
  clear hB3 HF2 HB2
  unfold ckV
  generalize (gck 64 G).1 = q3
  by_cases hgk : (gck 64 G).2 = 0
  rotate_left
  · have HE := Lib.hid (retBad (B := w.heap.size) (L := L) (G := G) (r := ⟨r1, r2, r3, r4⟩) (w' := w3) (forE_grants HR1.out HCK.out HRK.out) hgk)
    generalize (gck 64 G).2 = q4 at *
    have hb1 : (q4 == 0) = false := by simpa using hgk
    have hb2 : (q4 != 0) = true := by simpa using hgk
    go_wp2_with fail
    go_ret3
    exact ⟨HE.out, HB3.out⟩
  have hfe : forE f ⟨r1, r2, r3, r4⟩ L G = 0 := (forE_grants HR1.out HCK.out HRK.out).trans hgk
  have HFL := Lib.hid (forL_ok hfe)
  have HFE := Lib.hid hfe
  have hgn : gn ≤ 64 := by rw [← HGL.out]; exact (gck_good hgk).1
  rw [hgk]
  clear hgk hfe
  obtain ⟨PP, hPP⟩ : ∃ PP : GV → Bool, PP = fun g => kindB ⟨r1, r2, r3, r4⟩ f g && lvB g L := ⟨_, rfl⟩
  rw [← hPP] at HFL
  have HPP := Lib.hid hPP
  clear hPP
  go_wp2_with fail
  go_loopw [15, 16, 17] (fun t v i wr => ∃ k : Nat, k ≤ gn ∧ i = .int .i64 k ∧ t = .int .u64 ((toW (liveL PP G k)).toNat : Int) ∧ OwnN w3.heap.size wr v (byL (liveL PP G k)) ∧ Below w3.heap.size w3 wr) (fun _ _ i _ => gn - (intOf i).toNat)
  case atStart => exact ⟨0, Nat.zero_le _, rfl, rfl, OwnOf.nil _ _ _ _ _, Below.refl _ _⟩
  case round =>
    obtain ⟨k, hk, rfl, rfl, hv, hB'⟩ := hrel
    obtain ⟨va, vc, rfl, _⟩ := hv.isOf cells1_len
    have HO := Lib.hid hv
    have HB := Lib.hid (Below.next HB3.out hB')
    have HFr := Lib.hid (HF3.out.later hB')
    have HBW := Lib.hid hB'
    clear hv hB'
    by_cases hlt : k < gn
    · have hkG : k < G.length := by rw [HGL.out]; exact hlt
      obtain ⟨b, off, rfl, hrow⟩ := (HG.out.later HB.out).2 (by omega)
      have hbl := hrow.1
      have s := RowOf.eight hrow k hkG
      have HTT := Lib.hid (liveL_t PP G k hkG)
      have HTF := Lib.hid (liveL_f PP G k hkG)
      have HLN := Lib.hid (liveL_len PP G k)
      have HBL := Lib.hid (byL_len (liveL PP G k))
      clear hrow
      have HPG : Hid (PP G[k] = (kindB ⟨r1, r2, r3, r4⟩ f G[k] && lvB G[k] L)) := by unfold Hid; rw [HPP.out]
      have HKD : Hid (kindB ⟨r1, r2, r3, r4⟩ f G[k] = (decide (G[k].c1 = r1 ∧ G[k].r1 = r2 ∧ G[k].c2 = r3 ∧ G[k].r2 = r4) && nmB G[k].fns f)) := rfl
      have HLC := Lib.hid (fun (W : World) hL => slive_any G[k] ra rn rc L W hL)
      have HNC := Lib.hid (snames_any G[k].fns f hf)
      have HBX := Lib.hid (Box8.start wr G[k] 68)
      have HBA := Lib.hid (below_alloc wr (.cells (cells8 G[k]).toArray 68))
      have HOA := Lib.hid (HO.out.alloc (.cells (cells8 G[k]).toArray 68))
      generalize lvE G[k] L = le at *
      generalize lvB G[k] L = lb at *
      generalize hM : liveL PP G k = M at *
      generalize G[k] = g at *
      obtain ⟨g1, g2, g3, g4, g5, g6, g7, g8⟩ := g
      obtain ⟨c1, c2, c3, c4, c5, c6, c7, c8⟩ := s
      unfold cells8 at HBX HBA HLC HOA
      dsimp only at *
      clear hM
      go_wp2_with fail
      clear c1 c2 c3 c4 c5 c6 c7 c8
      have HFa := Lib.hid (HFr.out.later HBA.out)
      have HBa := Lib.hid (Below.next HB.out HBA.out)
      have HBWa := Lib.hid (Below.next HBW.out HBA.out)
      generalize wr.alloc (.cells #[.int .i64 g1, .int .i64 g2, .int .i64 g3, .int .i64 g4, .int .u8 (g5.toNat : Int), .int .u64 (g6.toNat : Int), .int .i64 g7, .bool g8] 68) = wa at *
      refine (HLC.out wa (HL.out.later HBa.out)).mono ?_
      rintro e w5 ⟨rfl, hB5⟩
      have HX5 := Lib.hid (HBX.out.later hB5)
      have HF5 := Lib.hid (HFa.out.later hB5)
      have HO5 := Lib.hid (HOA.out.later hB5)
      have HB5 := Lib.hid (Below.next HBa.out hB5)
      have HBW5 := Lib.hid (Below.next HBWa.out hB5)
      clear hB5 HBX HFa HOA HBa HBWa HLC HFr HB HBW HBA HO
      cases lb
      · have HPF := Lib.hid (HTF.out (by rw [HPG.out]; simp))
        go_wp2_with fail
        go_roundw
        case rel => exact ⟨k + 1, by omega, by go_num, by rw [HPF.out], by rw [HPF.out]; exact HO5.out, HBW5.out⟩
        case measure => simp [intOf]; omega
      · rw [Bool.and_true] at HPG
        obtain ⟨_, d1, d2, d3, d4, d5, d6, d7, d8⟩ := HX5.out
        obtain ⟨_, e1, e2, e3, e4⟩ := HF5.out
        dsimp only at d1 d2 d3 d4 d5 d6 d7 d8
        by_cases h : g1 = r1 ∧ g2 = r2 ∧ g3 = r3 ∧ g4 = r4
        · rw [decide_eq_true h, Bool.true_and] at HKD
          obtain ⟨rfl, rfl, rfl, rfl⟩ := h
          go_wp2_with fail
          refine (HNC.out _).mono ?_
          rintro e w6 ⟨rfl, rfl⟩
          cases hnm : nmB g5 f
          · have HPF := Lib.hid (HTF.out (by rw [HPG.out, HKD.out, hnm]))
            clear hnm
            go_wp2_with fail
            go_roundw
            case rel => exact ⟨k + 1, by omega, by go_num, by rw [HPF.out], by rw [HPF.out]; exact HO5.out, HBW5.out⟩
            case measure => simp [intOf]; omega
          · have HPT := Lib.hid (HTT.out (by rw [HPG.out, HKD.out, hnm]))
            clear hnm
            have hml : (byL M).length ≤ 64 := by rw [HBL.out]; have := HLN.out; omega
            have HBT := Lib.hid (bits_or (toW M) g6)
            have HTS : Hid (toW (liveL PP G (k + 1)) = toW M ||| g6) := by unfold Hid; rw [HPT.out, toW_snoc]
            have HBS : Hid (byL (liveL PP G (k + 1)) = byL M ++ [(k : Int)]) := by unfold Hid; rw [HPT.out, byL_snoc]
            have HO6 := Lib.hid (HO5.out.alloc (.cells #[.int .i64 (k : Int)] 3))
            have HI6 := Lib.hid (isOf_new (c := cells1) (n := 1) w5 #[.int .i64 (k : Int)] 3 (k : Int) rfl)
            have HZ6 : Hid (w3.heap.size ≤ (w5.alloc (.cells #[.int .i64 (k : Int)] 3)).heap.size) := by unfold Hid; rw [World.size_alloc]; have := HBW5.out.size; omega
            have HM6 : Hid (((byL M).length + 1) * 8 ≤ 140737488355328) := by unfold Hid; omega
            go_wp2_with (at_builtin; refine wpList_appOf rfl (.tmp 76) (.tmp 78) 50 rfl Try.underlying50 _ 8 infoInt1 zero1 (by decide) (by decide) cells1_len cells1_one w3.heap.size (.slice va (byL M).length vc) (byL M) rfl HO6.out (some ⟨w5.heap.size, 0, none⟩) 1 1 [(k : Int)] rfl HI6.out HM6.out HZ6.out ?_)
            intro v7 w7 ho7 hb7
            have HO7 := Lib.hid ho7
            have HB7 := Lib.hid (Below.trans (HBW5.out.alloc HBW5.out.size _) hb7)
            clear ho7 hb7 d1 d2 d3 d4 d5 d6 d7 d8 e1 e2 e3 e4
            go_wp2_with fail
            go_roundw
            case rel => exact ⟨k + 1, by omega, by go_num, by rw [HTS.out, ← HBT.out], by rw [HBS.out]; exact HO7.out, HB7.out⟩
            case measure => simp [intOf]; omega
        · rw [decide_eq_false h, Bool.false_and] at HKD
          have HPF := Lib.hid (HTF.out (by rw [HPG.out, HKD.out]))
          have hq : ¬ g1 = r1 ∨ (g1 = r1 ∧ ¬ g2 = r2) ∨ (g1 = r1 ∧ g2 = r2 ∧ ¬ g3 = r3) ∨ (g1 = r1 ∧ g2 = r2 ∧ g3 = r3 ∧ ¬ g4 = r4) := by omega
          clear h
          rcases hq with h | ⟨rfl, h⟩ | ⟨rfl, rfl, h⟩ | ⟨rfl, rfl, rfl, h⟩
          all_goals
            have hbf := beqI_f' h
            go_wp2_with fail
            go_roundw
            case rel => exact ⟨k + 1, by omega, by go_num, by rw [HPF.out], by rw [HPF.out]; exact HO5.out, HBW5.out⟩
            case measure => simp [intOf]; omega
    · obtain rfl : k = gn := by omega
      have HE : Hid (liveL PP G k = forL f ⟨r1, r2, r3, r4⟩ L G) := by unfold Hid; rw [HFL.out, HGL.out]
      have hz3 := HB3.out.size
      have hV : OwnN w.heap.size wr (.slice va (byL (liveL PP G k)).length vc) (byL (forL f ⟨r1, r2, r3, r4⟩ L G)) := by have := HO.out; rw [HE.out] at this ⊢; exact OwnOf.weaken this hz3
      have HV9 := Lib.hid hV
      rw [HE.out]
      clear hV
      go_wp2_with fail
      go_ret3
      exact ⟨⟨_, by rw [HFE.out]; rfl, by have := HV9.out; rw [HE.out] at this; exact this⟩, HB.out⟩
end Go.Proofs.Ytndijajaddkbhaa.Re
