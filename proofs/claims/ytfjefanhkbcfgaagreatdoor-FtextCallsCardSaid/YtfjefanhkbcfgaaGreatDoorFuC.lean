/- The reference's Fail, Make, Truth, Text; pieces of a text. -/
import Derived.Test.YtfjefanhkbcfgaaGreatDoorFuB
import Derived.Test.YtfjefanhkbcfgaaGreatDoorFtY
namespace Go.Proofs.YtfjefanhkbcfgaaGreatDoor.Va
open Go Go.RowKit GM
set_option linter.unusedVariables false
set_option linter.unusedSimpArgs false
theorem rfail_any (c : Int) (w : World) : Calls Tryz.prog 68 #[.int .i64 c] w fun e w' => e = .returned (.agg #[.int .u8 4, .int .i64 (flN c), .string ⟨#[]⟩]) ∧ Below w.heap.size w w' := by
  by_cases h1 : c < 1
  · have H : Hid (flN c = 2) := if_neg (by omega)
    generalize flN c = r at *
    go_enter Tryz.func68, Tryz.ntmps68
    go_wp2_with fail
    refine bodyPost_ret (v := .agg #[.int .u8 4, .int .i64 2, .string ⟨#[]⟩]) (by simp [results, Tryz.results68, go_sem]) rfl ⟨by rw [H.out], valloc _ _⟩
  · by_cases h2 : 7 < c
    · have H : Hid (flN c = 2) := if_neg (by omega)
      generalize flN c = r at *
      go_enter Tryz.func68, Tryz.ntmps68
      go_wp2_with fail
      refine bodyPost_ret (v := .agg #[.int .u8 4, .int .i64 2, .string ⟨#[]⟩]) (by simp [results, Tryz.results68, go_sem]) rfl ⟨by rw [H.out], valloc _ _⟩
    · have H : Hid (flN c = c) := if_pos (by omega)
      generalize flN c = r at *
      go_enter Tryz.func68, Tryz.ntmps68
      go_wp2_with fail
      refine bodyPost_ret (v := .agg #[.int .u8 4, .int .i64 c, .string ⟨#[]⟩]) (by simp [results, Tryz.results68, go_sem]) rfl ⟨by rw [H.out], valloc _ _⟩
theorem rmake_any (n : Int) (hn : leastI ≤ n) (w : World) : Calls Tryz.prog 69 #[.int .i64 n] w fun e w' => e = .returned (.agg #[.int .u8 (mkK n : Int), .int .i64 (mkN n), .string ⟨#[]⟩]) ∧ Below w.heap.size w w' := by
  have HX : Hid (B3 (w.alloc (.cells #[.int .u8 0, .int .i64 0, .string ⟨#[]⟩] 25)) w.heap.size 0 0 ⟨#[]⟩) := B3.start w 0 0 ⟨#[]⟩
  have HW := Lib.hid (valloc w (.cells #[.int .u8 0, .int .i64 0, .string ⟨#[]⟩] 25))
  by_cases h : n = -9223372036854775808
  · have H1 : Hid (mkK n = 4) := if_pos h
    have H2 : Hid (mkN n = 3) := if_pos h
    have HF : Hid (flN 3 = 3) := rfl
    generalize mkK n = x at *
    generalize mkN n = y at *
    subst h
    go_enter Tryz.func69, Tryz.ntmps69
    go_wp2_with fail
    generalize w.alloc (.cells #[.int .u8 0, .int .i64 0, .string ⟨#[]⟩] 25) = wa at *
    refine (rfail_any 3 _).mono ?_
    rw [HF.out]
    rintro e w1 ⟨rfl, hB⟩
    have hX : B3 w1 w.heap.size 0 0 ⟨#[]⟩ := HX.out.later hB
    have HBW := Lib.hid (vnext HW.out hB)
    clear hB
    obtain ⟨x0, x1, x2, z0, z1, z2⟩ := hX.cells
    have hXl := hX.lt
    have hq : B3 (((w1.setCell ⟨w.heap.size, 0, none⟩ (.int .u8 4)).setCell ⟨w.heap.size, 1, none⟩ (.int .i64 3)).setCell ⟨w.heap.size, 2, none⟩ (.string ⟨#[]⟩)) w.heap.size 4 3 ⟨#[]⟩ ∧ w1.grownBy (((w1.setCell ⟨w.heap.size, 0, none⟩ (.int .u8 4)).setCell ⟨w.heap.size, 1, none⟩ (.int .i64 3)).setCell ⟨w.heap.size, 2, none⟩ (.string ⟨#[]⟩)) (some (w.heap.size)) := hX.set 4 3 ⟨#[]⟩
    have hb5 := HBW.out.grown hq.2 HBW.out.size (fun q hq => by injection hq with hq; omega)
    obtain ⟨hq, _⟩ := hq
    go_wp2_with fail
    generalize ((w1.setCell ⟨w.heap.size, 0, none⟩ (.int .u8 4)).setCell ⟨w.heap.size, 1, none⟩ (.int .i64 3)).setCell ⟨w.heap.size, 2, none⟩ (.string ⟨#[]⟩) = w5 at *
    obtain ⟨y0, y1, y2, _, _, _⟩ := hq.cells
    refine bodyPost_ret (v := .agg #[.int .u8 4, .int .i64 3, .string ⟨#[]⟩]) (by simp [results, Tryz.results69, go_sem, y0, y1, y2]) rfl ⟨by rw [H1.out, H2.out]; rfl, hb5⟩
  · have H1 : Hid (mkK n = 1) := if_neg h
    have H2 : Hid (mkN n = n) := if_neg h
    have h2 : decide (n < -9223372036854775807) = false := by simp; unfold leastI at hn; omega
    generalize mkK n = x at *
    generalize mkN n = y at *
    clear h hn HX HW
    go_enter Tryz.func69, Tryz.ntmps69
    go_wp2_with fail
    refine bodyPost_ret (v := .agg #[.int .u8 1, .int .i64 n, .string ⟨#[]⟩]) (by simp [results, Tryz.results69, go_sem]) rfl ⟨by rw [H1.out, H2.out]; rfl, valloc _ _⟩
theorem rtruth_any (b : Bool) (w : World) : Calls Tryz.prog 63 #[.bool b] w fun e w' => e = .returned (.agg #[.int .u8 2, .int .i64 (b2i b), .string ⟨#[]⟩]) ∧ Below w.heap.size w w' := by
  cases b
  · have H : Hid (b2i false = 0) := rfl
    generalize b2i false = x at *
    go_enter Tryz.func63, Tryz.ntmps63
    go_wp2_with fail
    refine bodyPost_ret (v := .agg #[.int .u8 2, .int .i64 0, .string ⟨#[]⟩]) (by simp [results, Tryz.results63, go_sem]) rfl ⟨by rw [H.out], valloc _ _⟩
  · have H : Hid (b2i true = 1) := rfl
    generalize b2i true = x at *
    go_enter Tryz.func63, Tryz.ntmps63
    go_wp2_with fail
    refine bodyPost_ret (v := .agg #[.int .u8 2, .int .i64 1, .string ⟨#[]⟩]) (by simp [results, Tryz.results63, go_sem]) rfl ⟨by rw [H.out], valloc _ _⟩
set_option maxHeartbeats 1600000 in
theorem rtext_any (s : ByteArray) (w : World) : Calls Tryz.prog 119 #[.string s] w fun e w' => e = .returned (vOf (txV s)) ∧ Below w.heap.size w w' := by
  have HX : Hid (B3 (w.alloc (.cells #[.int .u8 0, .int .i64 0, .string ⟨#[]⟩] 25)) w.heap.size 0 0 ⟨#[]⟩) := B3.start w 0 0 ⟨#[]⟩
  have HB := Lib.hid (valloc w (.cells #[.int .u8 0, .int .i64 0, .string ⟨#[]⟩] 25))
  go_enter Tryz.func119, Tryz.ntmps119
  by_cases h : 256 < s.size
  · have HE : Hid (txV s = badV) := by unfold Hid txV; rw [if_pos h]
    go_wp2_with fail
    generalize w.alloc (.cells #[.int .u8 0, .int .i64 0, .string ⟨#[]⟩] 25) = wa at *
    refine (rfail_any 2 _).mono ?_
    rw [show flN 2 = 2 from rfl]
    rintro e w1 ⟨rfl, hB⟩
    have hX : B3 w1 w.heap.size 0 0 ⟨#[]⟩ := HX.out.later hB
    have HBW := Lib.hid (vnext HB.out hB)
    obtain ⟨x0, x1, x2, z0, z1, z2⟩ := hX.cells
    have hXl := hX.lt
    obtain ⟨hq, hg⟩ := b3_set hX 4 2 ⟨#[]⟩
    have hb5 := HBW.out.grown hg HBW.out.size (fun q hq => by injection hq with hq; omega)
    clear hB hg
    go_wp2_with fail
    generalize ((w1.setCell ⟨w.heap.size, 0, none⟩ (.int .u8 4)).setCell ⟨w.heap.size, 1, none⟩ (.int .i64 2)).setCell ⟨w.heap.size, 2, none⟩ (.string ⟨#[]⟩) = w5 at *
    obtain ⟨y0, y1, y2, _, _, _⟩ := hq.cells
    refine bodyPost_ret (v := .agg #[.int .u8 4, .int .i64 2, .string ⟨#[]⟩]) (by simp [results, Tryz.results119, go_sem, y0, y1, y2]) rfl ⟨by rw [HE.out]; rfl, hb5⟩
  · have HE : Hid (txV s = (3, 0, s)) := by unfold Hid txV; rw [if_neg h]
    go_wp2_with fail
    refine bodyPost_ret (v := .agg #[.int .u8 3, .int .i64 0, .string s]) (by simp [results, Tryz.results119, go_sem]) rfl ⟨by rw [HE.out]; rfl, valloc _ _⟩
set_option maxHeartbeats 6400000 in
theorem rpiece_32 (s : ByteArray) (wa0 : Option Addr) (wn wc : Nat) (W0 : List Int) (w : World) (hW : IsW w wa0 wn W0) (hwn : wn ≤ 20) (M : Int) (hM : (W0 = [] ∧ M = 1) ∨ W0[0]? = some M) (hs : s.size ≤ 4096) :
    Calls Tryz.prog 54 #[.int .u8 32, .string s, .slice wa0 wn wc] w fun e w' => e = .returned (vOf (leftV s M)) ∧ Below w.heap.size w w' := by
  have HX : Hid (B3 (w.alloc (.cells #[.int .u8 0, .int .i64 0, .string ⟨#[]⟩] 25)) w.heap.size 0 0 ⟨#[]⟩) := B3.start w 0 0 ⟨#[]⟩
  have HB := Lib.hid (valloc w (.cells #[.int .u8 0, .int .i64 0, .string ⟨#[]⟩] 25))
  have HWW := Lib.hid hW
  have HM := Lib.hid hM
  clear hW hM
  go_enter Tryz.func54, Tryz.ntmps54
  obtain ⟨F, HF⟩ : ∃ F : Int, Hid (F = 1) := ⟨1, rfl⟩
  go_upto_if 10 with (fail)
  generalize w.alloc (.cells #[.int .u8 0, .int .i64 0, .string ⟨#[]⟩] 25) = wa at *
  have hwa := Lib.hid (IsOf.later HWW.out HB.out)
  go_cut [7, 8] (fun f m wx => f = .int .i64 F ∧ m = .int .i64 M ∧ wx = wa)
  case first =>
    rcases HM.out with ⟨rfl, rfl⟩ | m1
    · obtain rfl : wn = 0 := hwa.out.1.symm
      go_wp2_with fail
      go_meet
      case rel => exact ⟨by rw [HF.out], rfl, rfl⟩
    · obtain ⟨nw0, bw0, ow0, eb0, lw0, cw0⟩ := isW_at hwa.out m1
      subst eb0
      rw [Nat.add_zero] at cw0
      go_wp2_with fail
      go_meet
      case rel => exact ⟨by rw [HF.out], rfl, rfl⟩
  case rest =>
    obtain ⟨rfl, rfl, rfl⟩ := hcut
    clear hwa HWW HM
    have h1 : ¬ F < 1 := by rw [HF.out]; omega
    by_cases h2 : M < 0
    · have HE : Hid (leftV s M = badV) := if_pos h2
      go_wp2_with fail
      refine (rfail_any 2 _).mono ?_
      rw [show flN 2 = 2 from rfl]
      rintro e w1 ⟨rfl, hB⟩
      have hX : B3 w1 w.heap.size 0 0 ⟨#[]⟩ := HX.out.later hB
      have HBW := Lib.hid (vnext HB.out hB)
      obtain ⟨x0, x1, x2, z0, z1, z2⟩ := hX.cells
      have hXl := hX.lt
      obtain ⟨hq, hg⟩ := b3_set hX 4 2 ⟨#[]⟩
      have hb5 := HBW.out.grown hg HBW.out.size (fun q hq => by injection hq with hq; omega)
      clear hB hg
      go_wp2_with fail
      generalize ((w1.setCell ⟨w.heap.size, 0, none⟩ (.int .u8 4)).setCell ⟨w.heap.size, 1, none⟩ (.int .i64 2)).setCell ⟨w.heap.size, 2, none⟩ (.string ⟨#[]⟩) = w5 at *
      obtain ⟨y0, y1, y2, _, _, _⟩ := hq.cells
      refine bodyPost_ret (v := .agg #[.int .u8 4, .int .i64 2, .string ⟨#[]⟩]) (by simp [results, Tryz.results54, go_sem, y0, y1, y2]) rfl ⟨by rw [HE.out]; rfl, hb5⟩
    obtain ⟨m1, hm1⟩ : ∃ x, min M (s.size : Int) = x := ⟨_, rfl⟩
    have b1 : 0 ≤ m1 ∧ m1 ≤ s.size := by omega
    have hw3 : IntKind.i64.wrap ((s.size : Int) + 1) = (s.size : Int) + 1 := IntWalk.i64_in _ (by omega)
    obtain ⟨f2, hf2⟩ : ∃ x, min F ((s.size : Int) + 1) = x := ⟨_, rfl⟩
    have b3 : 1 ≤ f2 ∧ f2 ≤ s.size + 1 := by omega
    have hw4 : IntKind.i64.wrap ((s.size : Int) - f2) = (s.size : Int) - f2 := IntWalk.i64_in _ (by omega)
    have hw5 : IntKind.i64.wrap ((s.size : Int) - f2 + 1) = (s.size : Int) - f2 + 1 := IntWalk.i64_in _ (by omega)
    obtain ⟨m2, hm2⟩ : ∃ x, min m1 ((s.size : Int) - f2 + 1) = x := ⟨_, rfl⟩
    have b4 : 0 ≤ m2 ∧ f2 - 1 + m2 ≤ s.size := by omega
    obtain ⟨p, hp⟩ : ∃ p : Nat, f2 - 1 = p := ⟨(f2 - 1).toNat, by omega⟩
    obtain ⟨q, hq⟩ : ∃ q : Nat, (p : Int) + m2 = q := ⟨(p + m2).toNat, by omega⟩
    have hw6 : IntKind.i64.wrap (f2 - 1) = (p : Int) := by rw [← hp]; exact IntWalk.i64_in _ (by omega)
    have hw7 : IntKind.i64.wrap ((p : Int) + m2) = (q : Int) := by rw [← hq]; exact IntWalk.i64_in _ (by omega)
    have b5 : p ≤ q ∧ q ≤ s.size := by omega
    have HP : Hid (s.extract p q = pieceS s F M) := by
      unfold Hid pieceS
      rw [hm1, hf2, hm2, hp, hq]
      rfl
    have HE : Hid (leftV s M = txV (s.extract p q)) := by
      unfold Hid
      rw [HP.out]
      rw [HF.out, piece_left (by omega)]
      exact if_neg h2
    obtain ⟨b50, b51⟩ := b5
    clear hp hq
    go_wp2_with fail
    have HV := Lib.hid (fun W => rtext_any (s.extract p q) W)
    generalize hvv : txV (s.extract p q) = vv at HV
    have HVV := Lib.hid hvv
    clear hvv
    obtain ⟨vk, vn, vs⟩ := vv
    unfold vOf at HV
    dsimp only at HV
    refine (HV.out _).mono ?_
    rintro e w1 ⟨rfl, hB⟩
    have hX : B3 w1 w.heap.size 0 0 ⟨#[]⟩ := HX.out.later hB
    have HBW := Lib.hid (vnext HB.out hB)
    obtain ⟨x0, x1, x2, z0, z1, z2⟩ := hX.cells
    have hXl := hX.lt
    obtain ⟨hq, hg⟩ := b3_set hX vk vn vs
    have hb5 := HBW.out.grown hg HBW.out.size (fun q hq => by injection hq with hq; omega)
    clear hB hg
    go_wp2_with fail
    generalize ((w1.setCell ⟨w.heap.size, 0, none⟩ (.int .u8 (vk : Int))).setCell ⟨w.heap.size, 1, none⟩ (.int .i64 vn)).setCell ⟨w.heap.size, 2, none⟩ (.string vs) = w5 at *
    obtain ⟨y0, y1, y2, _, _, _⟩ := hq.cells
    refine bodyPost_ret (v := .agg #[.int .u8 (vk : Int), .int .i64 vn, .string vs]) (by simp [results, Tryz.results54, go_sem, y0, y1, y2]) rfl ⟨by rw [HE.out, HVV.out]; rfl, hb5⟩
set_option maxHeartbeats 6400000 in
theorem rpiece_33 (s : ByteArray) (wa0 : Option Addr) (wn wc : Nat) (W0 : List Int) (w : World) (hW : IsW w wa0 wn W0) (hwn : wn ≤ 20) (M : Int) (hM : (W0 = [] ∧ M = 1) ∨ W0[0]? = some M) (hs : s.size ≤ 4096) :
    Calls Tryz.prog 54 #[.int .u8 33, .string s, .slice wa0 wn wc] w fun e w' => e = .returned (vOf (rightV s M)) ∧ Below w.heap.size w w' := by
  have HX : Hid (B3 (w.alloc (.cells #[.int .u8 0, .int .i64 0, .string ⟨#[]⟩] 25)) w.heap.size 0 0 ⟨#[]⟩) := B3.start w 0 0 ⟨#[]⟩
  have HB := Lib.hid (valloc w (.cells #[.int .u8 0, .int .i64 0, .string ⟨#[]⟩] 25))
  have HWW := Lib.hid hW
  have HM := Lib.hid hM
  clear hW hM
  go_enter Tryz.func54, Tryz.ntmps54
  obtain ⟨F, HF⟩ : ∃ F : Int, Hid (F = 1) := ⟨1, rfl⟩
  go_upto_if 10 with (fail)
  generalize w.alloc (.cells #[.int .u8 0, .int .i64 0, .string ⟨#[]⟩] 25) = wa at *
  have hwa := Lib.hid (IsOf.later HWW.out HB.out)
  go_cut [7, 8] (fun f m wx => f = .int .i64 F ∧ m = .int .i64 M ∧ wx = wa)
  case first =>
    rcases HM.out with ⟨rfl, rfl⟩ | m1
    · obtain rfl : wn = 0 := hwa.out.1.symm
      go_wp2_with fail
      go_meet
      case rel => exact ⟨by rw [HF.out], rfl, rfl⟩
    · obtain ⟨nw0, bw0, ow0, eb0, lw0, cw0⟩ := isW_at hwa.out m1
      subst eb0
      rw [Nat.add_zero] at cw0
      go_wp2_with fail
      go_meet
      case rel => exact ⟨by rw [HF.out], rfl, rfl⟩
  case rest =>
    obtain ⟨rfl, rfl, rfl⟩ := hcut
    clear hwa HWW HM
    have h1 : ¬ F < 1 := by rw [HF.out]; omega
    by_cases h2 : M < 0
    · have HE : Hid (rightV s M = badV) := if_pos h2
      go_wp2_with fail
      refine (rfail_any 2 _).mono ?_
      rw [show flN 2 = 2 from rfl]
      rintro e w1 ⟨rfl, hB⟩
      have hX : B3 w1 w.heap.size 0 0 ⟨#[]⟩ := HX.out.later hB
      have HBW := Lib.hid (vnext HB.out hB)
      obtain ⟨x0, x1, x2, z0, z1, z2⟩ := hX.cells
      have hXl := hX.lt
      obtain ⟨hq, hg⟩ := b3_set hX 4 2 ⟨#[]⟩
      have hb5 := HBW.out.grown hg HBW.out.size (fun q hq => by injection hq with hq; omega)
      clear hB hg
      go_wp2_with fail
      generalize ((w1.setCell ⟨w.heap.size, 0, none⟩ (.int .u8 4)).setCell ⟨w.heap.size, 1, none⟩ (.int .i64 2)).setCell ⟨w.heap.size, 2, none⟩ (.string ⟨#[]⟩) = w5 at *
      obtain ⟨y0, y1, y2, _, _, _⟩ := hq.cells
      refine bodyPost_ret (v := .agg #[.int .u8 4, .int .i64 2, .string ⟨#[]⟩]) (by simp [results, Tryz.results54, go_sem, y0, y1, y2]) rfl ⟨by rw [HE.out]; rfl, hb5⟩
    obtain ⟨m1, hm1⟩ : ∃ x, min M (s.size : Int) = x := ⟨_, rfl⟩
    have b1 : 0 ≤ m1 ∧ m1 ≤ s.size := by omega
    obtain ⟨F1, HF1⟩ : ∃ x, Hid ((s.size : Int) - m1 + 1 = x) := ⟨_, rfl⟩
    have hw1 : IntKind.i64.wrap ((s.size : Int) - m1) = (s.size : Int) - m1 := IntWalk.i64_in _ (by omega)
    have hw2 : IntKind.i64.wrap ((s.size : Int) - m1 + 1) = F1 := by rw [← HF1.out]; exact IntWalk.i64_in _ (by omega)
    have b2 : 1 ≤ F1 := by rw [← HF1.out]; omega
    have hw3 : IntKind.i64.wrap ((s.size : Int) + 1) = (s.size : Int) + 1 := IntWalk.i64_in _ (by omega)
    obtain ⟨f2, hf2⟩ : ∃ x, min F1 ((s.size : Int) + 1) = x := ⟨_, rfl⟩
    have b3 : 1 ≤ f2 ∧ f2 ≤ s.size + 1 := by omega
    have hw4 : IntKind.i64.wrap ((s.size : Int) - f2) = (s.size : Int) - f2 := IntWalk.i64_in _ (by omega)
    have hw5 : IntKind.i64.wrap ((s.size : Int) - f2 + 1) = (s.size : Int) - f2 + 1 := IntWalk.i64_in _ (by omega)
    obtain ⟨m2, hm2⟩ : ∃ x, min m1 ((s.size : Int) - f2 + 1) = x := ⟨_, rfl⟩
    have b4 : 0 ≤ m2 ∧ f2 - 1 + m2 ≤ s.size := by omega
    obtain ⟨p, hp⟩ : ∃ p : Nat, f2 - 1 = p := ⟨(f2 - 1).toNat, by omega⟩
    obtain ⟨q, hq⟩ : ∃ q : Nat, (p : Int) + m2 = q := ⟨(p + m2).toNat, by omega⟩
    have hw6 : IntKind.i64.wrap (f2 - 1) = (p : Int) := by rw [← hp]; exact IntWalk.i64_in _ (by omega)
    have hw7 : IntKind.i64.wrap ((p : Int) + m2) = (q : Int) := by rw [← hq]; exact IntWalk.i64_in _ (by omega)
    have b5 : p ≤ q ∧ q ≤ s.size := by omega
    have HP : Hid (s.extract p q = pieceS s F1 M) := by
      unfold Hid pieceS
      rw [hm1, hf2, hm2, hp, hq]
      rfl
    have HE : Hid (rightV s M = txV (s.extract p q)) := by
      unfold Hid
      rw [HP.out]
      rw [← HF1.out, ← hm1, piece_right (by omega)]
      exact if_neg h2
    obtain ⟨b50, b51⟩ := b5
    clear hp hq
    go_wp2_with fail
    have HV := Lib.hid (fun W => rtext_any (s.extract p q) W)
    generalize hvv : txV (s.extract p q) = vv at HV
    have HVV := Lib.hid hvv
    clear hvv
    obtain ⟨vk, vn, vs⟩ := vv
    unfold vOf at HV
    dsimp only at HV
    refine (HV.out _).mono ?_
    rintro e w1 ⟨rfl, hB⟩
    have hX : B3 w1 w.heap.size 0 0 ⟨#[]⟩ := HX.out.later hB
    have HBW := Lib.hid (vnext HB.out hB)
    obtain ⟨x0, x1, x2, z0, z1, z2⟩ := hX.cells
    have hXl := hX.lt
    obtain ⟨hq, hg⟩ := b3_set hX vk vn vs
    have hb5 := HBW.out.grown hg HBW.out.size (fun q hq => by injection hq with hq; omega)
    clear hB hg
    go_wp2_with fail
    generalize ((w1.setCell ⟨w.heap.size, 0, none⟩ (.int .u8 (vk : Int))).setCell ⟨w.heap.size, 1, none⟩ (.int .i64 vn)).setCell ⟨w.heap.size, 2, none⟩ (.string vs) = w5 at *
    obtain ⟨y0, y1, y2, _, _, _⟩ := hq.cells
    refine bodyPost_ret (v := .agg #[.int .u8 (vk : Int), .int .i64 vn, .string vs]) (by simp [results, Tryz.results54, go_sem, y0, y1, y2]) rfl ⟨by rw [HE.out, HVV.out]; rfl, hb5⟩
set_option maxHeartbeats 6400000 in
theorem rpiece_34 (s : ByteArray) (wa0 : Option Addr) (wn wc : Nat) (W0 : List Int) (w : World) (hW : IsW w wa0 wn W0) (hwn : wn ≤ 20) (F M : Int) (hM : W0[0]? = some F ∧ W0[1]? = some M) (hF : F ≤ 9223372036854775807) (hs : s.size ≤ 4096) :
    Calls Tryz.prog 54 #[.int .u8 34, .string s, .slice wa0 wn wc] w fun e w' => e = .returned (vOf (midV s F M)) ∧ Below w.heap.size w w' := by
  have HX : Hid (B3 (w.alloc (.cells #[.int .u8 0, .int .i64 0, .string ⟨#[]⟩] 25)) w.heap.size 0 0 ⟨#[]⟩) := B3.start w 0 0 ⟨#[]⟩
  have HB := Lib.hid (valloc w (.cells #[.int .u8 0, .int .i64 0, .string ⟨#[]⟩] 25))
  have HWW := Lib.hid hW
  have HM := Lib.hid hM
  clear hW hM
  go_enter Tryz.func54, Tryz.ntmps54
  go_upto_if 10 with (fail)
  generalize w.alloc (.cells #[.int .u8 0, .int .i64 0, .string ⟨#[]⟩] 25) = wa at *
  have hwa := Lib.hid (IsOf.later HWW.out HB.out)
  go_cut [7, 8] (fun f m wx => f = .int .i64 F ∧ m = .int .i64 M ∧ ∃ j, wx = wa.drewN j)
  case first =>
    obtain ⟨m1, m2⟩ := HM.out
    obtain ⟨nw0, bw0, ow0, eb0, lw0, cw0⟩ := isW_at hwa.out m1
    obtain ⟨nw1, bw1, ow1, eb1, lw1, cw1⟩ := isW_at hwa.out m2
    subst eb0
    cases eb1
    rw [Nat.add_zero] at cw0
    go_wp2_with fail
    go_quiet (fail)
    go_wp2_with fail
    go_meet
    case rel => exact ⟨rfl, rfl, _, rfl⟩
  case rest =>
    obtain ⟨rfl, rfl, j, rfl⟩ := hcut
    clear hwa HWW HM
    have HX1 : Hid (B3 (wa.drewN j) w.heap.size 0 0 ⟨#[]⟩) := HX
    have HB1 := Lib.hid (drewN_below HB.out j)
    clear HX HB
    generalize wa.drewN j = wb at *
    have HX := HX1
    have HB := HB1
    clear HX1 HB1
    by_cases h1 : F < 1
    · have HE : Hid (midV s F M = badV) := if_pos (.inl h1)
      go_wp2_with fail
      refine (rfail_any 2 _).mono ?_
      rw [show flN 2 = 2 from rfl]
      rintro e w1 ⟨rfl, hB⟩
      have hX : B3 w1 w.heap.size 0 0 ⟨#[]⟩ := HX.out.later hB
      have HBW := Lib.hid (vnext HB.out hB)
      obtain ⟨x0, x1, x2, z0, z1, z2⟩ := hX.cells
      have hXl := hX.lt
      obtain ⟨hq, hg⟩ := b3_set hX 4 2 ⟨#[]⟩
      have hb5 := HBW.out.grown hg HBW.out.size (fun q hq => by injection hq with hq; omega)
      clear hB hg
      go_wp2_with fail
      generalize ((w1.setCell ⟨w.heap.size, 0, none⟩ (.int .u8 4)).setCell ⟨w.heap.size, 1, none⟩ (.int .i64 2)).setCell ⟨w.heap.size, 2, none⟩ (.string ⟨#[]⟩) = w5 at *
      obtain ⟨y0, y1, y2, _, _, _⟩ := hq.cells
      refine bodyPost_ret (v := .agg #[.int .u8 4, .int .i64 2, .string ⟨#[]⟩]) (by simp [results, Tryz.results54, go_sem, y0, y1, y2]) rfl ⟨by rw [HE.out]; rfl, hb5⟩
    by_cases h2 : M < 0
    · have HE : Hid (midV s F M = badV) := if_pos (.inr h2)
      go_wp2_with fail
      refine (rfail_any 2 _).mono ?_
      rw [show flN 2 = 2 from rfl]
      rintro e w1 ⟨rfl, hB⟩
      have hX : B3 w1 w.heap.size 0 0 ⟨#[]⟩ := HX.out.later hB
      have HBW := Lib.hid (vnext HB.out hB)
      obtain ⟨x0, x1, x2, z0, z1, z2⟩ := hX.cells
      have hXl := hX.lt
      obtain ⟨hq, hg⟩ := b3_set hX 4 2 ⟨#[]⟩
      have hb5 := HBW.out.grown hg HBW.out.size (fun q hq => by injection hq with hq; omega)
      clear hB hg
      go_wp2_with fail
      generalize ((w1.setCell ⟨w.heap.size, 0, none⟩ (.int .u8 4)).setCell ⟨w.heap.size, 1, none⟩ (.int .i64 2)).setCell ⟨w.heap.size, 2, none⟩ (.string ⟨#[]⟩) = w5 at *
      obtain ⟨y0, y1, y2, _, _, _⟩ := hq.cells
      refine bodyPost_ret (v := .agg #[.int .u8 4, .int .i64 2, .string ⟨#[]⟩]) (by simp [results, Tryz.results54, go_sem, y0, y1, y2]) rfl ⟨by rw [HE.out]; rfl, hb5⟩
    obtain ⟨m1, hm1⟩ : ∃ x, min M (s.size : Int) = x := ⟨_, rfl⟩
    have b1 : 0 ≤ m1 ∧ m1 ≤ s.size := by omega
    have hw3 : IntKind.i64.wrap ((s.size : Int) + 1) = (s.size : Int) + 1 := IntWalk.i64_in _ (by omega)
    obtain ⟨f2, hf2⟩ : ∃ x, min F ((s.size : Int) + 1) = x := ⟨_, rfl⟩
    have b3 : 1 ≤ f2 ∧ f2 ≤ s.size + 1 := by omega
    have hw4 : IntKind.i64.wrap ((s.size : Int) - f2) = (s.size : Int) - f2 := IntWalk.i64_in _ (by omega)
    have hw5 : IntKind.i64.wrap ((s.size : Int) - f2 + 1) = (s.size : Int) - f2 + 1 := IntWalk.i64_in _ (by omega)
    obtain ⟨m2, hm2⟩ : ∃ x, min m1 ((s.size : Int) - f2 + 1) = x := ⟨_, rfl⟩
    have b4 : 0 ≤ m2 ∧ f2 - 1 + m2 ≤ s.size := by omega
    obtain ⟨p, hp⟩ : ∃ p : Nat, f2 - 1 = p := ⟨(f2 - 1).toNat, by omega⟩
    obtain ⟨q, hq⟩ : ∃ q : Nat, (p : Int) + m2 = q := ⟨(p + m2).toNat, by omega⟩
    have hw6 : IntKind.i64.wrap (f2 - 1) = (p : Int) := by rw [← hp]; exact IntWalk.i64_in _ (by omega)
    have hw7 : IntKind.i64.wrap ((p : Int) + m2) = (q : Int) := by rw [← hq]; exact IntWalk.i64_in _ (by omega)
    have b5 : p ≤ q ∧ q ≤ s.size := by omega
    have HP : Hid (s.extract p q = pieceS s F M) := by
      unfold Hid pieceS
      rw [hm1, hf2, hm2, hp, hq]
      rfl
    have HE : Hid (midV s F M = txV (s.extract p q)) := by
      unfold Hid
      rw [HP.out]
      rw [piece_mid (by omega) (by omega)]
      exact if_neg (by omega)
    obtain ⟨b50, b51⟩ := b5
    clear hp hq
    go_wp2_with fail
    have HV := Lib.hid (fun W => rtext_any (s.extract p q) W)
    generalize hvv : txV (s.extract p q) = vv at HV
    have HVV := Lib.hid hvv
    clear hvv
    obtain ⟨vk, vn, vs⟩ := vv
    unfold vOf at HV
    dsimp only at HV
    refine (HV.out _).mono ?_
    rintro e w1 ⟨rfl, hB⟩
    have hX : B3 w1 w.heap.size 0 0 ⟨#[]⟩ := HX.out.later hB
    have HBW := Lib.hid (vnext HB.out hB)
    obtain ⟨x0, x1, x2, z0, z1, z2⟩ := hX.cells
    have hXl := hX.lt
    obtain ⟨hq, hg⟩ := b3_set hX vk vn vs
    have hb5 := HBW.out.grown hg HBW.out.size (fun q hq => by injection hq with hq; omega)
    clear hB hg
    go_wp2_with fail
    generalize ((w1.setCell ⟨w.heap.size, 0, none⟩ (.int .u8 (vk : Int))).setCell ⟨w.heap.size, 1, none⟩ (.int .i64 vn)).setCell ⟨w.heap.size, 2, none⟩ (.string vs) = w5 at *
    obtain ⟨y0, y1, y2, _, _, _⟩ := hq.cells
    refine bodyPost_ret (v := .agg #[.int .u8 (vk : Int), .int .i64 vn, .string vs]) (by simp [results, Tryz.results54, go_sem, y0, y1, y2]) rfl ⟨by rw [HE.out, HVV.out]; rfl, hb5⟩
end Go.Proofs.YtfjefanhkbcfgaaGreatDoor.Va
