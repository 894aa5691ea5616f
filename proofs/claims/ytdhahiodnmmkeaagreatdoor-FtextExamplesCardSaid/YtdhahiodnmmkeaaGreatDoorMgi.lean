/- Merged: FuC FuD. -/
import Derived.Test.YtdhahiodnmmkeaaGreatDoorMgg
import Derived.Test.YtdhahiodnmmkeaaGreatDoorMgh
/- The reference's Fail, Make, Truth, Text; pieces of a text. -/
namespace Go.Proofs.YtdhahiodnmmkeaaGreatDoor.Va
open Go Go.RowKit GM
set_option linter.unusedVariables false
set_option linter.unusedSimpArgs false
theorem zbz (c : Int) (w : World) : Calls Tryz.prog 45 #[.int .i64 c] w fun e w' => e = .returned (.agg #[.int .u8 4, .int .i64 (flN c), .string ⟨#[]⟩]) ∧ Below w.heap.size w w' := by
 by_cases h1 : c < 1
 · have H : Hid (flN c = 2) := if_neg (by omega)
   generalize flN c = r at *
   go_enter Tryz.func45, Tryz.ntmps45
   go_wp2_with fail
   refine bodyPost_ret (v := .agg #[.int .u8 4, .int .i64 2, .string ⟨#[]⟩]) (by simp [results, Tryz.results45, go_sem]) rfl ⟨by rw [H.out], zaa _ _⟩
 · by_cases h2 : 7 < c
   · have H : Hid (flN c = 2) := if_neg (by omega)
     generalize flN c = r at *
     go_enter Tryz.func45, Tryz.ntmps45
     go_wp2_with fail
     refine bodyPost_ret (v := .agg #[.int .u8 4, .int .i64 2, .string ⟨#[]⟩]) (by simp [results, Tryz.results45, go_sem]) rfl ⟨by rw [H.out], zaa _ _⟩
   · have H : Hid (flN c = c) := if_pos (by omega)
     generalize flN c = r at *
     go_enter Tryz.func45, Tryz.ntmps45
     go_wp2_with fail
     refine bodyPost_ret (v := .agg #[.int .u8 4, .int .i64 c, .string ⟨#[]⟩]) (by simp [results, Tryz.results45, go_sem]) rfl ⟨by rw [H.out], zaa _ _⟩
theorem znh (n : Int) (hn : zau ≤ n) (w : World) : Calls Tryz.prog 46 #[.int .i64 n] w fun e w' => e = .returned (.agg #[.int .u8 (mkK n : Int), .int .i64 (mkN n), .string ⟨#[]⟩]) ∧ Below w.heap.size w w' := by
 have HX : Hid (B3 (w.alloc (.cells #[.int .u8 0, .int .i64 0, .string ⟨#[]⟩] 26)) w.heap.size 0 0 ⟨#[]⟩) := B3.start w 0 0 ⟨#[]⟩
 have HW := Lib.hid (zaa w (.cells #[.int .u8 0, .int .i64 0, .string ⟨#[]⟩] 26))
 by_cases h : n = -9223372036854775808
 · have H1 : Hid (mkK n = 4) := if_pos h
   have H2 : Hid (mkN n = 3) := if_pos h
   have HF : Hid (flN 3 = 3) := rfl
   generalize mkK n = x at *
   generalize mkN n = y at *
   subst h
   go_enter Tryz.func46, Tryz.ntmps46
   go_wp2_with fail
   generalize w.alloc (.cells #[.int .u8 0, .int .i64 0, .string ⟨#[]⟩] 26) = wa at *
   refine (zbz 3 _).mono ?_
   rw [HF.out]
   rintro e w1 ⟨rfl, hB⟩
   have hX : B3 w1 w.heap.size 0 0 ⟨#[]⟩ := HX.out.later hB
   have HBW := Lib.hid (zab HW.out hB)
   clear hB
   obtain ⟨x0, x1, x2, z0, z1, z2⟩ := hX.cells
   have hXl := hX.lt
   have hq : B3 (((w1.setCell ⟨w.heap.size, 0, none⟩ (.int .u8 4)).setCell ⟨w.heap.size, 1, none⟩ (.int .i64 3)).setCell ⟨w.heap.size, 2, none⟩ (.string ⟨#[]⟩)) w.heap.size 4 3 ⟨#[]⟩ ∧ w1.grownBy (((w1.setCell ⟨w.heap.size, 0, none⟩ (.int .u8 4)).setCell ⟨w.heap.size, 1, none⟩ (.int .i64 3)).setCell ⟨w.heap.size, 2, none⟩ (.string ⟨#[]⟩)) (some (w.heap.size)) := hX.set 4 3 ⟨#[]⟩
   have hb5 := HBW.out.grown hq.2 HBW.out.size (fun q hq => by injection hq with hq; omega)
   obtain ⟨hq, _⟩ := hq
   go_wp2_with fail
   generalize ((w1.setCell ⟨w.heap.size, 0, none⟩ (.int .u8 4)).setCell ⟨w.heap.size, 1, none⟩ (.int .i64 3)).setCell ⟨w.heap.size, 2, none⟩ (.string ⟨#[]⟩) = w5 at *
   obtain ⟨y0, y1, y2, _, _, _⟩ := hq.cells
   refine bodyPost_ret (v := .agg #[.int .u8 4, .int .i64 3, .string ⟨#[]⟩]) (by simp [results, Tryz.results46, go_sem, y0, y1, y2]) rfl ⟨by rw [H1.out, H2.out]; rfl, hb5⟩
 · have H1 : Hid (mkK n = 1) := if_neg h
   have H2 : Hid (mkN n = n) := if_neg h
   have h2 : decide (n < -9223372036854775807) = false := by simp; unfold zau at hn; omega
   generalize mkK n = x at *
   generalize mkN n = y at *
   clear h hn HX HW
   go_enter Tryz.func46, Tryz.ntmps46
   go_wp2_with fail
   refine bodyPost_ret (v := .agg #[.int .u8 1, .int .i64 n, .string ⟨#[]⟩]) (by simp [results, Tryz.results46, go_sem]) rfl ⟨by rw [H1.out, H2.out]; rfl, zaa _ _⟩
theorem zse (b : Bool) (w : World) : Calls Tryz.prog 44 #[.bool b] w fun e w' => e = .returned (.agg #[.int .u8 2, .int .i64 (b2i b), .string ⟨#[]⟩]) ∧ Below w.heap.size w w' := by
 cases b
 · have H : Hid (b2i false = 0) := rfl
   generalize b2i false = x at *
   go_enter Tryz.func44, Tryz.ntmps44
   go_wp2_with fail
   refine bodyPost_ret (v := .agg #[.int .u8 2, .int .i64 0, .string ⟨#[]⟩]) (by simp [results, Tryz.results44, go_sem]) rfl ⟨by rw [H.out], zaa _ _⟩
 · have H : Hid (b2i true = 1) := rfl
   generalize b2i true = x at *
   go_enter Tryz.func44, Tryz.ntmps44
   go_wp2_with fail
   refine bodyPost_ret (v := .agg #[.int .u8 2, .int .i64 1, .string ⟨#[]⟩]) (by simp [results, Tryz.results44, go_sem]) rfl ⟨by rw [H.out], zaa _ _⟩
set_option maxHeartbeats 1600000 in
theorem zbn (s : ByteArray) (w : World) : Calls Tryz.prog 163 #[.string s] w fun e w' => e = .returned (vOf (txV s)) ∧ Below w.heap.size w w' := by
 have HX : Hid (B3 (w.alloc (.cells #[.int .u8 0, .int .i64 0, .string ⟨#[]⟩] 26)) w.heap.size 0 0 ⟨#[]⟩) := B3.start w 0 0 ⟨#[]⟩
 have HB := Lib.hid (zaa w (.cells #[.int .u8 0, .int .i64 0, .string ⟨#[]⟩] 26))
 go_enter Tryz.func163, Tryz.ntmps163
 by_cases h : 256 < s.size
 · have HE : Hid (txV s = badV) := by unfold Hid txV; rw [if_pos h]
   go_wp2_with fail
   generalize w.alloc (.cells #[.int .u8 0, .int .i64 0, .string ⟨#[]⟩] 26) = wa at *
   refine (zbz 2 _).mono ?_
   rw [show flN 2 = 2 from rfl]
   rintro e w1 ⟨rfl, hB⟩
   have hX : B3 w1 w.heap.size 0 0 ⟨#[]⟩ := HX.out.later hB
   have HBW := Lib.hid (zab HB.out hB)
   obtain ⟨x0, x1, x2, z0, z1, z2⟩ := hX.cells
   have hXl := hX.lt
   obtain ⟨hq, hg⟩ := zae hX 4 2 ⟨#[]⟩
   have hb5 := HBW.out.grown hg HBW.out.size (fun q hq => by injection hq with hq; omega)
   clear hB hg
   go_wp2_with fail
   generalize ((w1.setCell ⟨w.heap.size, 0, none⟩ (.int .u8 4)).setCell ⟨w.heap.size, 1, none⟩ (.int .i64 2)).setCell ⟨w.heap.size, 2, none⟩ (.string ⟨#[]⟩) = w5 at *
   obtain ⟨y0, y1, y2, _, _, _⟩ := hq.cells
   refine bodyPost_ret (v := .agg #[.int .u8 4, .int .i64 2, .string ⟨#[]⟩]) (by simp [results, Tryz.results163, go_sem, y0, y1, y2]) rfl ⟨by rw [HE.out]; rfl, hb5⟩
 · have HE : Hid (txV s = (3, 0, s)) := by unfold Hid txV; rw [if_neg h]
   go_wp2_with fail
   refine bodyPost_ret (v := .agg #[.int .u8 3, .int .i64 0, .string s]) (by simp [results, Tryz.results163, go_sem]) rfl ⟨by rw [HE.out]; rfl, zaa _ _⟩
set_option maxHeartbeats 6400000 in
theorem zuv (s : ByteArray) (wa0 : Option Addr) (wn wc : Nat) (W0 : List Int) (w : World) (hW : IsW w wa0 wn W0) (hwn : wn ≤ 20) (M : Int) (hM : (W0 = [] ∧ M = 1) ∨ W0[0]? = some M) (hs : s.size ≤ 4096) :
 Calls Tryz.prog 82 #[.int .u8 32, .string s, .slice wa0 wn wc] w fun e w' => e = .returned (vOf (leftV s M)) ∧ Below w.heap.size w w' := by
 have HX : Hid (B3 (w.alloc (.cells #[.int .u8 0, .int .i64 0, .string ⟨#[]⟩] 26)) w.heap.size 0 0 ⟨#[]⟩) := B3.start w 0 0 ⟨#[]⟩
 have HB := Lib.hid (zaa w (.cells #[.int .u8 0, .int .i64 0, .string ⟨#[]⟩] 26))
 have HWW := Lib.hid hW
 have HM := Lib.hid hM
 clear hW hM
 go_enter Tryz.func82, Tryz.ntmps82
 obtain ⟨F, HF⟩ : ∃ F : Int, Hid (F = 1) := ⟨1, rfl⟩
 go_upto_if 10 with (fail)
 generalize w.alloc (.cells #[.int .u8 0, .int .i64 0, .string ⟨#[]⟩] 26) = wa at *
 have hwa := Lib.hid (IsOf.later HWW.out HB.out)
 go_cut [7, 8] (fun f m wx => f = .int .i64 F ∧ m = .int .i64 M ∧ wx = wa)
 case first =>
  rcases HM.out with ⟨rfl, rfl⟩ | m1
  · obtain rfl : wn = 0 := hwa.out.1.symm
    go_wp2_with fail
    go_meet
    case rel => exact ⟨by rw [HF.out], rfl, rfl⟩
  · obtain ⟨nw0, bw0, ow0, eb0, lw0, cw0⟩ := zd8 hwa.out m1
    subst eb0
    rw [Nat.add_zero] at cw0
    go_wp2_with fail
    go_meet
    case rel => exact ⟨by rw [HF.out], rfl, rfl⟩
 case rest =>
  obtain ⟨rfl, rfl, rfl⟩ := hcut
  clear hwa HWW HM
  have h1 : ¬ F < 1 := by rw [HF.out]; omega
  by_cases h2 : M < 0
  · have HE : Hid (leftV s M = badV) := if_pos h2
    go_wp2_with fail
    refine (zbz 2 _).mono ?_
    rw [show flN 2 = 2 from rfl]
    rintro e w1 ⟨rfl, hB⟩
    have hX : B3 w1 w.heap.size 0 0 ⟨#[]⟩ := HX.out.later hB
    have HBW := Lib.hid (zab HB.out hB)
    obtain ⟨x0, x1, x2, z0, z1, z2⟩ := hX.cells
    have hXl := hX.lt
    obtain ⟨hq, hg⟩ := zae hX 4 2 ⟨#[]⟩
    have hb5 := HBW.out.grown hg HBW.out.size (fun q hq => by injection hq with hq; omega)
    clear hB hg
    go_wp2_with fail
    generalize ((w1.setCell ⟨w.heap.size, 0, none⟩ (.int .u8 4)).setCell ⟨w.heap.size, 1, none⟩ (.int .i64 2)).setCell ⟨w.heap.size, 2, none⟩ (.string ⟨#[]⟩) = w5 at *
    obtain ⟨y0, y1, y2, _, _, _⟩ := hq.cells
    refine bodyPost_ret (v := .agg #[.int .u8 4, .int .i64 2, .string ⟨#[]⟩]) (by simp [results, Tryz.results82, go_sem, y0, y1, y2]) rfl ⟨by rw [HE.out]; rfl, hb5⟩
  obtain ⟨m1, hm1⟩ : ∃ x, min M (s.size : Int) = x := ⟨_, rfl⟩
  have b1 : 0 ≤ m1 ∧ m1 ≤ s.size := by omega
  have hw3 : IntKind.i64.wrap ((s.size : Int) + 1) = (s.size : Int) + 1 := IntWalk.i64_in _ (by omega)
  obtain ⟨f2, hf2⟩ : ∃ x, min F ((s.size : Int) + 1) = x := ⟨_, rfl⟩
  have b3 : 1 ≤ f2 ∧ f2 ≤ s.size + 1 := by omega
  have hw4 : IntKind.i64.wrap ((s.size : Int) - f2) = (s.size : Int) - f2 := IntWalk.i64_in _ (by omega)
  have hw5 : IntKind.i64.wrap ((s.size : Int) - f2 + 1) = (s.size : Int) - f2 + 1 := IntWalk.i64_in _ (by omega)
  obtain ⟨m2, hm2⟩ : ∃ x, min m1 ((s.size : Int) - f2 + 1) = x := ⟨_, rfl⟩
  have b4 : 0 ≤ m2 ∧ f2 - 1 + m2 ≤ s.size := by omega
  obtain ⟨p, hp⟩ : ∃ p : Nat, f2 - 1 = p := ⟨(f2 - 1).toNat, by omega⟩
  obtain ⟨q, hq⟩ : ∃ q : Nat, (p : Int) + m2 = q := ⟨(p + m2).toNat, by omega⟩
  have hw6 : IntKind.i64.wrap (f2 - 1) = (p : Int) := by rw [← hp]; exact IntWalk.i64_in _ (by omega)
  have hw7 : IntKind.i64.wrap ((p : Int) + m2) = (q : Int) := by rw [← hq]; exact IntWalk.i64_in _ (by omega)
  have b5 : p ≤ q ∧ q ≤ s.size := by omega
  have HP : Hid (s.extract p q = zd7 s F M) := by
   unfold Hid zd7
   rw [hm1, hf2, hm2, hp, hq]
   rfl
  have HE : Hid (leftV s M = txV (s.extract p q)) := by
   unfold Hid
   rw [HP.out]
   rw [HF.out, zsm (by omega)]
   exact if_neg h2
  obtain ⟨b50, b51⟩ := b5
  clear hp hq
  go_wp2_with fail
  have HV := Lib.hid (fun W => zbn (s.extract p q) W)
  generalize hvv : txV (s.extract p q) = vv at HV
  have HVV := Lib.hid hvv
  clear hvv
  obtain ⟨vk, vn, vs⟩ := vv
  unfold vOf at HV
  dsimp only at HV
  refine (HV.out _).mono ?_
  rintro e w1 ⟨rfl, hB⟩
  have hX : B3 w1 w.heap.size 0 0 ⟨#[]⟩ := HX.out.later hB
  have HBW := Lib.hid (zab HB.out hB)
  obtain ⟨x0, x1, x2, z0, z1, z2⟩ := hX.cells
  have hXl := hX.lt
  obtain ⟨hq, hg⟩ := zae hX vk vn vs
  have hb5 := HBW.out.grown hg HBW.out.size (fun q hq => by injection hq with hq; omega)
  clear hB hg
  go_wp2_with fail
  generalize ((w1.setCell ⟨w.heap.size, 0, none⟩ (.int .u8 (vk : Int))).setCell ⟨w.heap.size, 1, none⟩ (.int .i64 vn)).setCell ⟨w.heap.size, 2, none⟩ (.string vs) = w5 at *
  obtain ⟨y0, y1, y2, _, _, _⟩ := hq.cells
  refine bodyPost_ret (v := .agg #[.int .u8 (vk : Int), .int .i64 vn, .string vs]) (by simp [results, Tryz.results82, go_sem, y0, y1, y2]) rfl ⟨by rw [HE.out, HVV.out]; rfl, hb5⟩
set_option maxHeartbeats 6400000 in
theorem zuu (s : ByteArray) (wa0 : Option Addr) (wn wc : Nat) (W0 : List Int) (w : World) (hW : IsW w wa0 wn W0) (hwn : wn ≤ 20) (M : Int) (hM : (W0 = [] ∧ M = 1) ∨ W0[0]? = some M) (hs : s.size ≤ 4096) :
 Calls Tryz.prog 82 #[.int .u8 33, .string s, .slice wa0 wn wc] w fun e w' => e = .returned (vOf (ziy s M)) ∧ Below w.heap.size w w' := by
 have HX : Hid (B3 (w.alloc (.cells #[.int .u8 0, .int .i64 0, .string ⟨#[]⟩] 26)) w.heap.size 0 0 ⟨#[]⟩) := B3.start w 0 0 ⟨#[]⟩
 have HB := Lib.hid (zaa w (.cells #[.int .u8 0, .int .i64 0, .string ⟨#[]⟩] 26))
 have HWW := Lib.hid hW
 have HM := Lib.hid hM
 clear hW hM
 go_enter Tryz.func82, Tryz.ntmps82
 obtain ⟨F, HF⟩ : ∃ F : Int, Hid (F = 1) := ⟨1, rfl⟩
 go_upto_if 10 with (fail)
 generalize w.alloc (.cells #[.int .u8 0, .int .i64 0, .string ⟨#[]⟩] 26) = wa at *
 have hwa := Lib.hid (IsOf.later HWW.out HB.out)
 go_cut [7, 8] (fun f m wx => f = .int .i64 F ∧ m = .int .i64 M ∧ wx = wa)
 case first =>
  rcases HM.out with ⟨rfl, rfl⟩ | m1
  · obtain rfl : wn = 0 := hwa.out.1.symm
    go_wp2_with fail
    go_meet
    case rel => exact ⟨by rw [HF.out], rfl, rfl⟩
  · obtain ⟨nw0, bw0, ow0, eb0, lw0, cw0⟩ := zd8 hwa.out m1
    subst eb0
    rw [Nat.add_zero] at cw0
    go_wp2_with fail
    go_meet
    case rel => exact ⟨by rw [HF.out], rfl, rfl⟩
 case rest =>
  obtain ⟨rfl, rfl, rfl⟩ := hcut
  clear hwa HWW HM
  have h1 : ¬ F < 1 := by rw [HF.out]; omega
  by_cases h2 : M < 0
  · have HE : Hid (ziy s M = badV) := if_pos h2
    go_wp2_with fail
    refine (zbz 2 _).mono ?_
    rw [show flN 2 = 2 from rfl]
    rintro e w1 ⟨rfl, hB⟩
    have hX : B3 w1 w.heap.size 0 0 ⟨#[]⟩ := HX.out.later hB
    have HBW := Lib.hid (zab HB.out hB)
    obtain ⟨x0, x1, x2, z0, z1, z2⟩ := hX.cells
    have hXl := hX.lt
    obtain ⟨hq, hg⟩ := zae hX 4 2 ⟨#[]⟩
    have hb5 := HBW.out.grown hg HBW.out.size (fun q hq => by injection hq with hq; omega)
    clear hB hg
    go_wp2_with fail
    generalize ((w1.setCell ⟨w.heap.size, 0, none⟩ (.int .u8 4)).setCell ⟨w.heap.size, 1, none⟩ (.int .i64 2)).setCell ⟨w.heap.size, 2, none⟩ (.string ⟨#[]⟩) = w5 at *
    obtain ⟨y0, y1, y2, _, _, _⟩ := hq.cells
    refine bodyPost_ret (v := .agg #[.int .u8 4, .int .i64 2, .string ⟨#[]⟩]) (by simp [results, Tryz.results82, go_sem, y0, y1, y2]) rfl ⟨by rw [HE.out]; rfl, hb5⟩
  obtain ⟨m1, hm1⟩ : ∃ x, min M (s.size : Int) = x := ⟨_, rfl⟩
  have b1 : 0 ≤ m1 ∧ m1 ≤ s.size := by omega
  obtain ⟨F1, HF1⟩ : ∃ x, Hid ((s.size : Int) - m1 + 1 = x) := ⟨_, rfl⟩
  have hw1 : IntKind.i64.wrap ((s.size : Int) - m1) = (s.size : Int) - m1 := IntWalk.i64_in _ (by omega)
  have hw2 : IntKind.i64.wrap ((s.size : Int) - m1 + 1) = F1 := by rw [← HF1.out]; exact IntWalk.i64_in _ (by omega)
  have b2 : 1 ≤ F1 := by rw [← HF1.out]; omega
  have hw3 : IntKind.i64.wrap ((s.size : Int) + 1) = (s.size : Int) + 1 := IntWalk.i64_in _ (by omega)
  obtain ⟨f2, hf2⟩ : ∃ x, min F1 ((s.size : Int) + 1) = x := ⟨_, rfl⟩
  have b3 : 1 ≤ f2 ∧ f2 ≤ s.size + 1 := by omega
  have hw4 : IntKind.i64.wrap ((s.size : Int) - f2) = (s.size : Int) - f2 := IntWalk.i64_in _ (by omega)
  have hw5 : IntKind.i64.wrap ((s.size : Int) - f2 + 1) = (s.size : Int) - f2 + 1 := IntWalk.i64_in _ (by omega)
  obtain ⟨m2, hm2⟩ : ∃ x, min m1 ((s.size : Int) - f2 + 1) = x := ⟨_, rfl⟩
  have b4 : 0 ≤ m2 ∧ f2 - 1 + m2 ≤ s.size := by omega
  obtain ⟨p, hp⟩ : ∃ p : Nat, f2 - 1 = p := ⟨(f2 - 1).toNat, by omega⟩
  obtain ⟨q, hq⟩ : ∃ q : Nat, (p : Int) + m2 = q := ⟨(p + m2).toNat, by omega⟩
  have hw6 : IntKind.i64.wrap (f2 - 1) = (p : Int) := by rw [← hp]; exact IntWalk.i64_in _ (by omega)
  have hw7 : IntKind.i64.wrap ((p : Int) + m2) = (q : Int) := by rw [← hq]; exact IntWalk.i64_in _ (by omega)
  have b5 : p ≤ q ∧ q ≤ s.size := by omega
  have HP : Hid (s.extract p q = zd7 s F1 M) := by
   unfold Hid zd7
   rw [hm1, hf2, hm2, hp, hq]
   rfl
  have HE : Hid (ziy s M = txV (s.extract p q)) := by
   unfold Hid
   rw [HP.out]
   rw [← HF1.out, ← hm1, zpd (by omega)]
   exact if_neg h2
  obtain ⟨b50, b51⟩ := b5
  clear hp hq
  go_wp2_with fail
  have HV := Lib.hid (fun W => zbn (s.extract p q) W)
  generalize hvv : txV (s.extract p q) = vv at HV
  have HVV := Lib.hid hvv
  clear hvv
  obtain ⟨vk, vn, vs⟩ := vv
  unfold vOf at HV
  dsimp only at HV
  refine (HV.out _).mono ?_
  rintro e w1 ⟨rfl, hB⟩
  have hX : B3 w1 w.heap.size 0 0 ⟨#[]⟩ := HX.out.later hB
  have HBW := Lib.hid (zab HB.out hB)
  obtain ⟨x0, x1, x2, z0, z1, z2⟩ := hX.cells
  have hXl := hX.lt
  obtain ⟨hq, hg⟩ := zae hX vk vn vs
  have hb5 := HBW.out.grown hg HBW.out.size (fun q hq => by injection hq with hq; omega)
  clear hB hg
  go_wp2_with fail
  generalize ((w1.setCell ⟨w.heap.size, 0, none⟩ (.int .u8 (vk : Int))).setCell ⟨w.heap.size, 1, none⟩ (.int .i64 vn)).setCell ⟨w.heap.size, 2, none⟩ (.string vs) = w5 at *
  obtain ⟨y0, y1, y2, _, _, _⟩ := hq.cells
  refine bodyPost_ret (v := .agg #[.int .u8 (vk : Int), .int .i64 vn, .string vs]) (by simp [results, Tryz.results82, go_sem, y0, y1, y2]) rfl ⟨by rw [HE.out, HVV.out]; rfl, hb5⟩
set_option maxHeartbeats 6400000 in
theorem zut (s : ByteArray) (wa0 : Option Addr) (wn wc : Nat) (W0 : List Int) (w : World) (hW : IsW w wa0 wn W0) (hwn : wn ≤ 20) (F M : Int) (hM : W0[0]? = some F ∧ W0[1]? = some M) (hF : F ≤ 9223372036854775807) (hs : s.size ≤ 4096) :
 Calls Tryz.prog 82 #[.int .u8 34, .string s, .slice wa0 wn wc] w fun e w' => e = .returned (vOf (midV s F M)) ∧ Below w.heap.size w w' := by
 have HX : Hid (B3 (w.alloc (.cells #[.int .u8 0, .int .i64 0, .string ⟨#[]⟩] 26)) w.heap.size 0 0 ⟨#[]⟩) := B3.start w 0 0 ⟨#[]⟩
 have HB := Lib.hid (zaa w (.cells #[.int .u8 0, .int .i64 0, .string ⟨#[]⟩] 26))
 have HWW := Lib.hid hW
 have HM := Lib.hid hM
 clear hW hM
 go_enter Tryz.func82, Tryz.ntmps82
 go_upto_if 10 with (fail)
 generalize w.alloc (.cells #[.int .u8 0, .int .i64 0, .string ⟨#[]⟩] 26) = wa at *
 have hwa := Lib.hid (IsOf.later HWW.out HB.out)
 go_cut [7, 8] (fun f m wx => f = .int .i64 F ∧ m = .int .i64 M ∧ ∃ j, wx = wa.drewN j)
 case first =>
  obtain ⟨m1, m2⟩ := HM.out
  obtain ⟨nw0, bw0, ow0, eb0, lw0, cw0⟩ := zd8 hwa.out m1
  obtain ⟨nw1, bw1, ow1, eb1, lw1, cw1⟩ := zd8 hwa.out m2
  subst eb0
  cases eb1
  rw [Nat.add_zero] at cw0
  go_wp2_with fail
  go_quiet (fail)
  go_wp2_with fail
  go_meet
  case rel => exact ⟨rfl, rfl, _, rfl⟩
 case rest =>
  obtain ⟨rfl, rfl, j, rfl⟩ := hcut
  clear hwa HWW HM
  have HX1 : Hid (B3 (wa.drewN j) w.heap.size 0 0 ⟨#[]⟩) := HX
  have HB1 := Lib.hid (zcc HB.out j)
  clear HX HB
  generalize wa.drewN j = wb at *
  have HX := HX1
  have HB := HB1
  clear HX1 HB1
  by_cases h1 : F < 1
  · have HE : Hid (midV s F M = badV) := if_pos (.inl h1)
    go_wp2_with fail
    refine (zbz 2 _).mono ?_
    rw [show flN 2 = 2 from rfl]
    rintro e w1 ⟨rfl, hB⟩
    have hX : B3 w1 w.heap.size 0 0 ⟨#[]⟩ := HX.out.later hB
    have HBW := Lib.hid (zab HB.out hB)
    obtain ⟨x0, x1, x2, z0, z1, z2⟩ := hX.cells
    have hXl := hX.lt
    obtain ⟨hq, hg⟩ := zae hX 4 2 ⟨#[]⟩
    have hb5 := HBW.out.grown hg HBW.out.size (fun q hq => by injection hq with hq; omega)
    clear hB hg
    go_wp2_with fail
    generalize ((w1.setCell ⟨w.heap.size, 0, none⟩ (.int .u8 4)).setCell ⟨w.heap.size, 1, none⟩ (.int .i64 2)).setCell ⟨w.heap.size, 2, none⟩ (.string ⟨#[]⟩) = w5 at *
    obtain ⟨y0, y1, y2, _, _, _⟩ := hq.cells
    refine bodyPost_ret (v := .agg #[.int .u8 4, .int .i64 2, .string ⟨#[]⟩]) (by simp [results, Tryz.results82, go_sem, y0, y1, y2]) rfl ⟨by rw [HE.out]; rfl, hb5⟩
  by_cases h2 : M < 0
  · have HE : Hid (midV s F M = badV) := if_pos (.inr h2)
    go_wp2_with fail
    refine (zbz 2 _).mono ?_
    rw [show flN 2 = 2 from rfl]
    rintro e w1 ⟨rfl, hB⟩
    have hX : B3 w1 w.heap.size 0 0 ⟨#[]⟩ := HX.out.later hB
    have HBW := Lib.hid (zab HB.out hB)
    obtain ⟨x0, x1, x2, z0, z1, z2⟩ := hX.cells
    have hXl := hX.lt
    obtain ⟨hq, hg⟩ := zae hX 4 2 ⟨#[]⟩
    have hb5 := HBW.out.grown hg HBW.out.size (fun q hq => by injection hq with hq; omega)
    clear hB hg
    go_wp2_with fail
    generalize ((w1.setCell ⟨w.heap.size, 0, none⟩ (.int .u8 4)).setCell ⟨w.heap.size, 1, none⟩ (.int .i64 2)).setCell ⟨w.heap.size, 2, none⟩ (.string ⟨#[]⟩) = w5 at *
    obtain ⟨y0, y1, y2, _, _, _⟩ := hq.cells
    refine bodyPost_ret (v := .agg #[.int .u8 4, .int .i64 2, .string ⟨#[]⟩]) (by simp [results, Tryz.results82, go_sem, y0, y1, y2]) rfl ⟨by rw [HE.out]; rfl, hb5⟩
  obtain ⟨m1, hm1⟩ : ∃ x, min M (s.size : Int) = x := ⟨_, rfl⟩
  have b1 : 0 ≤ m1 ∧ m1 ≤ s.size := by omega
  have hw3 : IntKind.i64.wrap ((s.size : Int) + 1) = (s.size : Int) + 1 := IntWalk.i64_in _ (by omega)
  obtain ⟨f2, hf2⟩ : ∃ x, min F ((s.size : Int) + 1) = x := ⟨_, rfl⟩
  have b3 : 1 ≤ f2 ∧ f2 ≤ s.size + 1 := by omega
  have hw4 : IntKind.i64.wrap ((s.size : Int) - f2) = (s.size : Int) - f2 := IntWalk.i64_in _ (by omega)
  have hw5 : IntKind.i64.wrap ((s.size : Int) - f2 + 1) = (s.size : Int) - f2 + 1 := IntWalk.i64_in _ (by omega)
  obtain ⟨m2, hm2⟩ : ∃ x, min m1 ((s.size : Int) - f2 + 1) = x := ⟨_, rfl⟩
  have b4 : 0 ≤ m2 ∧ f2 - 1 + m2 ≤ s.size := by omega
  obtain ⟨p, hp⟩ : ∃ p : Nat, f2 - 1 = p := ⟨(f2 - 1).toNat, by omega⟩
  obtain ⟨q, hq⟩ : ∃ q : Nat, (p : Int) + m2 = q := ⟨(p + m2).toNat, by omega⟩
  have hw6 : IntKind.i64.wrap (f2 - 1) = (p : Int) := by rw [← hp]; exact IntWalk.i64_in _ (by omega)
  have hw7 : IntKind.i64.wrap ((p : Int) + m2) = (q : Int) := by rw [← hq]; exact IntWalk.i64_in _ (by omega)
  have b5 : p ≤ q ∧ q ≤ s.size := by omega
  have HP : Hid (s.extract p q = zd7 s F M) := by
   unfold Hid zd7
   rw [hm1, hf2, hm2, hp, hq]
   rfl
  have HE : Hid (midV s F M = txV (s.extract p q)) := by
   unfold Hid
   rw [HP.out]
   rw [zu3 (by omega) (by omega)]
   exact if_neg (by omega)
  obtain ⟨b50, b51⟩ := b5
  clear hp hq
  go_wp2_with fail
  have HV := Lib.hid (fun W => zbn (s.extract p q) W)
  generalize hvv : txV (s.extract p q) = vv at HV
  have HVV := Lib.hid hvv
  clear hvv
  obtain ⟨vk, vn, vs⟩ := vv
  unfold vOf at HV
  dsimp only at HV
  refine (HV.out _).mono ?_
  rintro e w1 ⟨rfl, hB⟩
  have hX : B3 w1 w.heap.size 0 0 ⟨#[]⟩ := HX.out.later hB
  have HBW := Lib.hid (zab HB.out hB)
  obtain ⟨x0, x1, x2, z0, z1, z2⟩ := hX.cells
  have hXl := hX.lt
  obtain ⟨hq, hg⟩ := zae hX vk vn vs
  have hb5 := HBW.out.grown hg HBW.out.size (fun q hq => by injection hq with hq; omega)
  clear hB hg
  go_wp2_with fail
  generalize ((w1.setCell ⟨w.heap.size, 0, none⟩ (.int .u8 (vk : Int))).setCell ⟨w.heap.size, 1, none⟩ (.int .i64 vn)).setCell ⟨w.heap.size, 2, none⟩ (.string vs) = w5 at *
  obtain ⟨y0, y1, y2, _, _, _⟩ := hq.cells
  refine bodyPost_ret (v := .agg #[.int .u8 (vk : Int), .int .i64 vn, .string vs]) (by simp [results, Tryz.results82, go_sem, y0, y1, y2]) rfl ⟨by rw [HE.out, HVV.out]; rfl, hb5⟩
end Go.Proofs.YtdhahiodnmmkeaaGreatDoor.Va
/- The reference's repeat and find. -/
namespace Go.Proofs.YtdhahiodnmmkeaaGreatDoor.Va
open Go Go.RowKit GM
set_option linter.unusedVariables false
set_option linter.unusedSimpArgs false
theorem ziz (s : ByteArray) : repS s 0 = ⟨#[]⟩ := by unfold repS; simp [Lib.repeatL]
theorem zi0 (l : List UInt8) : ∀ k, Lib.repeatL l (k + 1) = Lib.repeatL l k ++ l
 | 0 => by simp [Lib.repeatL]
 | k + 1 => by
  have e : Lib.repeatL l (k + 1 + 1) = l ++ Lib.repeatL l (k + 1) := rfl
  have e2 : Lib.repeatL l (k + 1) = l ++ Lib.repeatL l k := rfl
  rw [e, zi0 l k, ← List.append_assoc, ← e2, zi0 l k]
theorem zni (s : ByteArray) (k : Nat) : repS s k ++ s = repS s (k + 1) := by
 apply zgm
 unfold repS
 rw [zi0]
 simp
theorem zei (s : ByteArray) : ∀ k, (repS s k).size = k * s.size
 | 0 => by rw [ziz, Nat.zero_mul]; rfl
 | k + 1 => by rw [← zni, ByteArray.size_append, zei s k, Nat.add_mul, Nat.one_mul]
theorem zqu (k : Nat) : repS ⟨#[]⟩ k = ⟨#[]⟩ := by
 apply zgm
 unfold repS
 exact zl6 k
theorem zxz {n : Int} (h0 : 0 ≤ n) : zdh ⟨#[]⟩ n = txV ⟨#[]⟩ := by
 unfold zdh
 rw [if_neg (by simp; omega), zqu]
theorem zux {s : ByteArray} {n : Int} {k : Nat} (h : (k : Int) < n) (hs : s ≠ ⟨#[]⟩) (hz : 256 < (repS s (k + 1)).size) : zdh s n = txV (repS s (k + 1)) := by
 have e1 : txV (repS s (k + 1)) = badV := if_pos hz
 rw [e1]
 unfold zdh
 by_cases hn : 256 < n
 · rw [if_pos (.inr ⟨hs, hn⟩)]
 · rw [if_neg (by omega)]
   refine if_pos ?_
   rw [zei] at *
   have : (k + 1) * s.size ≤ (min n 256).toNat * s.size := Nat.mul_le_mul_right _ (by omega)
   omega
set_option maxRecDepth 100000 in
set_option maxHeartbeats 6400000 in
theorem zus (s : ByteArray) (n : Int) (hn : n ≤ 9223372036854775807) (hs : s.size ≤ 4096) (w : World) : Calls Tryz.prog 166 #[.string s, .int .i64 n] w fun e w' => e = .returned (vOf (zdh s n)) ∧ Below w.heap.size w w' := by
 have HX : Hid (B3 (w.alloc (.cells #[.int .u8 0, .int .i64 0, .string ⟨#[]⟩] 26)) w.heap.size 0 0 ⟨#[]⟩) := B3.start w 0 0 ⟨#[]⟩
 have HB := Lib.hid (zaa w (.cells #[.int .u8 0, .int .i64 0, .string ⟨#[]⟩] 26))
 go_enter Tryz.func166, Tryz.ntmps166
 by_cases h0 : n < 0
 · have HE : Hid (zdh s n = badV) := if_pos (.inl h0)
   go_wp2_with fail
   generalize w.alloc (.cells #[.int .u8 0, .int .i64 0, .string ⟨#[]⟩] 26) = wa at *
   refine (zbz 2 _).mono ?_
   rw [show flN 2 = 2 from rfl]
   rintro e w1 ⟨rfl, hB⟩
   have hX : B3 w1 w.heap.size 0 0 ⟨#[]⟩ := HX.out.later hB
   have HBW := Lib.hid (zab HB.out hB)
   obtain ⟨x0, x1, x2, z0, z1, z2⟩ := hX.cells
   have hXl := hX.lt
   obtain ⟨hq, hg⟩ := zae hX 4 2 ⟨#[]⟩
   have hb5 := HBW.out.grown hg HBW.out.size (fun q hq => by injection hq with hq; omega)
   clear hB hg
   go_wp2_with fail
   generalize ((w1.setCell ⟨w.heap.size, 0, none⟩ (.int .u8 4)).setCell ⟨w.heap.size, 1, none⟩ (.int .i64 2)).setCell ⟨w.heap.size, 2, none⟩ (.string ⟨#[]⟩) = w5 at *
   obtain ⟨y0, y1, y2, _, _, _⟩ := hq.cells
   refine bodyPost_ret (v := .agg #[.int .u8 4, .int .i64 2, .string ⟨#[]⟩]) (by simp [results, Tryz.results166, go_sem, y0, y1, y2]) rfl ⟨by rw [HE.out]; rfl, hb5⟩
 go_wp2_with fail
 generalize w.alloc (.cells #[.int .u8 0, .int .i64 0, .string ⟨#[]⟩] 26) = wa at *
 go_loopw [5, 6] (fun u i wr => ∃ k : Nat, (k : Int) ≤ n ∧ k ≤ 256 ∧ u = .string (repS s k) ∧ i = .int .i64 (k : Int) ∧ Hid ((repS s k).size ≤ 256) ∧ wr = wa) (fun _ i _ => 300 - (intOf i).toNat)
 case atStart => exact ⟨0, by omega, by omega, by rw [ziz], rfl, by rw [ziz]; exact Nat.zero_le _, rfl⟩
 case round =>
  obtain ⟨k, hk, hk2, rfl, rfl, HZ, rfl⟩ := hrel
  by_cases hlt : (k : Int) < n
  · have d1 : decide ((k : Int) < n) = true := decide_eq_true hlt
    rcases zif s with rfl | ⟨he1, he2⟩
    · have HE : Hid (zdh ⟨#[]⟩ n = txV ⟨#[]⟩) := zxz (by omega)
      have HQ := zqu k
      rw [HQ]
      clear HQ
      go_wp2_with fail
      have HV := Lib.hid (fun W => zbn ⟨#[]⟩ W)
      generalize hvv : txV ⟨#[]⟩ = vv at HV
      have HVV := Lib.hid hvv
      clear hvv
      obtain ⟨vk, vn, vs⟩ := vv
      unfold vOf at HV
      dsimp only at HV
      refine (HV.out _).mono ?_
      rintro e w1 ⟨rfl, hB⟩
      have hX : B3 w1 w.heap.size 0 0 ⟨#[]⟩ := HX.out.later hB
      have HBW := Lib.hid (zab HB.out hB)
      obtain ⟨x0, x1, x2, z0, z1, z2⟩ := hX.cells
      have hXl := hX.lt
      obtain ⟨hq, hg⟩ := zae hX vk vn vs
      have hb5 := HBW.out.grown hg HBW.out.size (fun q hq => by injection hq with hq; omega)
      clear hB hg
      go_wp2_with fail
      generalize ((w1.setCell ⟨w.heap.size, 0, none⟩ (.int .u8 (vk : Int))).setCell ⟨w.heap.size, 1, none⟩ (.int .i64 vn)).setCell ⟨w.heap.size, 2, none⟩ (.string vs) = w5 at *
      obtain ⟨y0, y1, y2, _, _, _⟩ := hq.cells
      refine bodyPost_ret (v := .agg #[.int .u8 (vk : Int), .int .i64 vn, .string vs]) (by simp [results, Tryz.results166, go_sem, y0, y1, y2]) rfl ⟨by rw [HE.out, HVV.out]; rfl, hb5⟩
    · have hne : s ≠ ⟨#[]⟩ := by rintro rfl; simp at he1
      have hz1 : 1 ≤ s.size := by
       rcases Nat.eq_zero_or_pos s.size with h | h
       · exact absurd (zgm (List.eq_nil_of_length_eq_zero ((dlen s).trans h))) hne
       · exact h
      have HZS := Lib.hid (zei s (k + 1))
      have HL := Lib.hid (fun h => zux (s := s) (n := n) (k := k) hlt hne h)
      have hadd := fun W => run_string_add_sum (P := Tryz.prog) W (repS s k) s (by have := HZ.out; omega)
      have hk3 : k + 1 ≤ 256 ∨ 256 < (repS s (k + 1)).size := by
       by_cases h : k + 1 ≤ 256
       · exact .inl h
       · right
         rw [HZS.out]
         have : (k + 1) * 1 ≤ (k + 1) * s.size := Nat.mul_le_mul_left _ hz1
         omega
      rw [zni] at hadd
      obtain ⟨R, HR⟩ : ∃ R, Hid (repS s (k + 1) = R) := ⟨_, rfl⟩
      rw [HR.out] at hadd HL hk3 HZS
      by_cases h4 : 256 < R.size
      · have HE := Lib.hid (HL.out h4)
        clear HL hk3
        go_wp2_with fail
        have HV := Lib.hid (fun W => zbn R W)
        generalize hvv : txV R = vv at HV
        have HVV := Lib.hid hvv
        clear hvv
        obtain ⟨vk, vn, vs⟩ := vv
        unfold vOf at HV
        dsimp only at HV
        refine (HV.out _).mono ?_
        rintro e w1 ⟨rfl, hB⟩
        have hX : B3 w1 w.heap.size 0 0 ⟨#[]⟩ := HX.out.later hB
        have HBW := Lib.hid (zab HB.out hB)
        obtain ⟨x0, x1, x2, z0, z1, z2⟩ := hX.cells
        have hXl := hX.lt
        obtain ⟨hq, hg⟩ := zae hX vk vn vs
        have hb5 := HBW.out.grown hg HBW.out.size (fun q hq => by injection hq with hq; omega)
        clear hB hg
        go_wp2_with fail
        generalize ((w1.setCell ⟨w.heap.size, 0, none⟩ (.int .u8 (vk : Int))).setCell ⟨w.heap.size, 1, none⟩ (.int .i64 vn)).setCell ⟨w.heap.size, 2, none⟩ (.string vs) = w5 at *
        obtain ⟨y0, y1, y2, _, _, _⟩ := hq.cells
        refine bodyPost_ret (v := .agg #[.int .u8 (vk : Int), .int .i64 vn, .string vs]) (by simp [results, Tryz.results166, go_sem, y0, y1, y2]) rfl ⟨by rw [HE.out, HVV.out]; rfl, hb5⟩
      · have HZN : Hid (R.size ≤ 256) := by unfold Hid; omega
        have hk4 : k + 1 ≤ 256 := hk3.resolve_right h4
        clear HL hk3 HZS
        go_wp2_with fail
        exact ⟨⟨k + 1, by omega, hk4, by rw [HR.out], by go_num, by unfold Hid; rw [HR.out]; exact HZN.out, trivial⟩, by simp [intOf]; omega⟩
  · have hkn : k = n.toNat := by omega
    have d1 : decide ((k : Int) < n) = false := decide_eq_false hlt
    have HE : Hid (zdh s n = txV (repS s k)) := by
     unfold Hid
     rw [hkn]
     refine zxy (by omega) ?_
     have h1 := HZ.out
     rw [zei] at h1
     rw [show n = (k : Int) by omega, Int.mul_comm]
     exact_mod_cast h1
    have HSZ := Lib.hid (zei s k)
    generalize repS s k = R at *
    clear hkn hk hlt
    go_wp2_with fail
    have HV := Lib.hid (fun W => zbn R W)
    generalize hvv : txV R = vv at HV
    have HVV := Lib.hid hvv
    clear hvv
    obtain ⟨vk, vn, vs⟩ := vv
    unfold vOf at HV
    dsimp only at HV
    refine (HV.out _).mono ?_
    rintro e w1 ⟨rfl, hB⟩
    have hX : B3 w1 w.heap.size 0 0 ⟨#[]⟩ := HX.out.later hB
    have HBW := Lib.hid (zab HB.out hB)
    obtain ⟨x0, x1, x2, z0, z1, z2⟩ := hX.cells
    have hXl := hX.lt
    obtain ⟨hq, hg⟩ := zae hX vk vn vs
    have hb5 := HBW.out.grown hg HBW.out.size (fun q hq => by injection hq with hq; omega)
    clear hB hg
    go_wp2_with fail
    generalize ((w1.setCell ⟨w.heap.size, 0, none⟩ (.int .u8 (vk : Int))).setCell ⟨w.heap.size, 1, none⟩ (.int .i64 vn)).setCell ⟨w.heap.size, 2, none⟩ (.string vs) = w5 at *
    obtain ⟨y0, y1, y2, _, _, _⟩ := hq.cells
    refine bodyPost_ret (v := .agg #[.int .u8 (vk : Int), .int .i64 vn, .string vs]) (by simp [results, Tryz.results166, go_sem, y0, y1, y2]) rfl ⟨by rw [HE.out, HVV.out]; rfl, hb5⟩
theorem ya1 {k : Int} (h : 0 ≤ k) : mkK (k * 10000) = 1 ∧ mkN (k * 10000) = k * 10000 := by
 have h : ¬ k * 10000 = zau := by unfold zau; omega
 exact ⟨if_neg h, if_neg h⟩
set_option maxHeartbeats 6400000 in
theorem zuw (s t : ByteArray) (f : Int) (hf : f ≤ 9223372036854775807) (hs : s.size ≤ 4096) (ht : t.size ≤ 4096) (w : World) : Calls Tryz.prog 167 #[.string s, .string t, .int .i64 f] w fun e w' => e = .returned (vOf (zea s t f)) ∧ Below w.heap.size w w' := by
 have HX : Hid (B3 (w.alloc (.cells #[.int .u8 0, .int .i64 0, .string ⟨#[]⟩] 26)) w.heap.size 0 0 ⟨#[]⟩) := B3.start w 0 0 ⟨#[]⟩
 have HB := Lib.hid (zaa w (.cells #[.int .u8 0, .int .i64 0, .string ⟨#[]⟩] 26))
 go_enter Tryz.func167, Tryz.ntmps167
 by_cases h0 : f < 1
 · have HE : Hid (zea s t f = badV) := zlg (.inl h0)
   go_wp2_with fail
   generalize w.alloc (.cells #[.int .u8 0, .int .i64 0, .string ⟨#[]⟩] 26) = wa at *
   refine (zbz 2 _).mono ?_
   rw [show flN 2 = 2 from rfl]
   rintro e w1 ⟨rfl, hB⟩
   have hX : B3 w1 w.heap.size 0 0 ⟨#[]⟩ := HX.out.later hB
   have HBW := Lib.hid (zab HB.out hB)
   obtain ⟨x0, x1, x2, z0, z1, z2⟩ := hX.cells
   have hXl := hX.lt
   obtain ⟨hq, hg⟩ := zae hX 4 2 ⟨#[]⟩
   have hb5 := HBW.out.grown hg HBW.out.size (fun q hq => by injection hq with hq; omega)
   clear hB hg
   go_wp2_with fail
   generalize ((w1.setCell ⟨w.heap.size, 0, none⟩ (.int .u8 4)).setCell ⟨w.heap.size, 1, none⟩ (.int .i64 2)).setCell ⟨w.heap.size, 2, none⟩ (.string ⟨#[]⟩) = w5 at *
   obtain ⟨y0, y1, y2, _, _, _⟩ := hq.cells
   refine bodyPost_ret (v := .agg #[.int .u8 4, .int .i64 2, .string ⟨#[]⟩]) (by simp [results, Tryz.results167, go_sem, y0, y1, y2]) rfl ⟨by rw [HE.out]; rfl, hb5⟩
 have hw1 : IntKind.i64.wrap ((t.size : Int) - (s.size : Int)) = (t.size : Int) - (s.size : Int) := IntWalk.i64_in _ (by omega)
 have hw2 : IntKind.i64.wrap ((t.size : Int) - (s.size : Int) + 1) = (t.size : Int) - (s.size : Int) + 1 := IntWalk.i64_in _ (by omega)
 go_wp2_with fail
 generalize w.alloc (.cells #[.int .u8 0, .int .i64 0, .string ⟨#[]⟩] 26) = wa at *
 go_loopw [7] (fun i wr => ∃ k : Int, i = .int .i64 k ∧ f ≤ k ∧ (k = f ∨ k ≤ 5000) ∧ Hid (fstP s.data.toList t.data.toList f = fstP s.data.toList t.data.toList k) ∧ wr = wa) (fun i _ => ((t.size : Int) - s.size + 2 - (match i with | .int _ n => n | _ => 0)).toNat)
 case atStart => exact ⟨f, rfl, Int.le_refl _, .inl rfl, rfl, rfl⟩
 case round =>
  obtain ⟨k, rfl, hk1, hk2, HF, rfl⟩ := hrel
  by_cases hlt : k ≤ (t.size : Int) - s.size + 1
  · have d1 : decide (k ≤ (t.size : Int) - (s.size : Int) + 1) = true := decide_eq_true hlt
    obtain ⟨p, hp⟩ : ∃ p : Nat, k - 1 = p := ⟨(k - 1).toNat, by omega⟩
    have hw3 : IntKind.i64.wrap (k - 1) = (p : Int) := by rw [← hp]; exact IntWalk.i64_in _ (by omega)
    have hw4 : IntKind.i64.wrap ((p : Int) + (s.size : Int)) = (p : Int) + (s.size : Int) := IntWalk.i64_in _ (by omega)
    have hb1 : p + s.size ≤ t.size := by omega
    have HX9 : Hid ((t.data.toList.drop (k - 1).toNat).take s.size = (t.extract p (p + s.size)).data.toList) := by
     unfold Hid
     rw [zcs, show (k - 1).toNat = p by omega, show p + s.size - p = s.size by omega]
    have HIT := Lib.hid (fun (h : (t.data.toList.drop (k - 1).toNat).take s.size = s.data.toList) => zy3 (s := s) (t := t) (f := f) (k := k) (by omega) (by omega) hlt HF.out h)
    have HMS := Lib.hid (fun (h : ¬ (t.data.toList.drop (k - 1).toNat).take s.size = s.data.toList) => yed (X := s.data.toList) (Y := t.data.toList) (f := f) (k := k) (by omega) (by rw [dlen, dlen]; exact hlt) HF.out (by rw [dlen]; exact h))
    rw [HX9.out] at HIT HMS
    have hel := yc2 (t.extract p (p + s.size)) s
    clear hp
    have hk5 : k ≤ 4097 := by omega
    by_cases he : t.extract p (p + s.size) = s
    · have HE := Lib.hid (HIT.out (by rw [he]))
      rw [decide_eq_true he] at hel
      obtain ⟨m1, m2⟩ := ya1 (k := k) (by omega)
      have HM1 := Lib.hid m1
      have HM2 := Lib.hid m2
      have hw5 : IntKind.i64.wrap (k * 10000) = k * 10000 := IntWalk.i64_in _ (by omega)
      have HMK := Lib.hid (fun W => znh (k * 10000) (by unfold zau; omega) W)
      rw [HM1.out, HM2.out] at HMK
      clear m1 m2 HIT HMS he
      go_wp2_with fail
      refine (HMK.out _).mono ?_
      rintro e w1 ⟨rfl, hB⟩
      have hX : B3 w1 w.heap.size 0 0 ⟨#[]⟩ := HX.out.later hB
      have HBW := Lib.hid (zab HB.out hB)
      obtain ⟨x0, x1, x2, z0, z1, z2⟩ := hX.cells
      have hXl := hX.lt
      obtain ⟨hq, hg⟩ := zae hX 1 (k * 10000) ⟨#[]⟩
      have hb5 := HBW.out.grown hg HBW.out.size (fun q hq => by injection hq with hq; omega)
      clear hB hg
      go_wp2_with fail
      generalize ((w1.setCell ⟨w.heap.size, 0, none⟩ (.int .u8 1)).setCell ⟨w.heap.size, 1, none⟩ (.int .i64 (k * 10000))).setCell ⟨w.heap.size, 2, none⟩ (.string ⟨#[]⟩) = w5 at *
      obtain ⟨y0, y1, y2, _, _, _⟩ := hq.cells
      refine bodyPost_ret (v := .agg #[.int .u8 1, .int .i64 (k * 10000), .string ⟨#[]⟩]) (by simp [results, Tryz.results167, go_sem, y0, y1, y2]) rfl ⟨by rw [HE.out]; rfl, hb5⟩
    · have HN := Lib.hid (HMS.out (fun h => he (zgm h)))
      rw [decide_eq_false he] at hel
      have hw5 : IntKind.i64.wrap (k + 1) = k + 1 := IntWalk.i64_in _ (by omega)
      clear HIT HMS he
      go_wp2_with fail
      exact ⟨⟨k + 1, by go_num, by omega, .inr (by omega), HN.out, trivial⟩, by simp; omega⟩
  · have d1 : decide (k ≤ (t.size : Int) - (s.size : Int) + 1) = false := decide_eq_false hlt
    have HE : Hid (zea s t f = badV) := zy4 (by omega) HF.out
    go_wp2_with fail
    refine (zbz 2 _).mono ?_
    rw [show flN 2 = 2 from rfl]
    rintro e w1 ⟨rfl, hB⟩
    have hX : B3 w1 w.heap.size 0 0 ⟨#[]⟩ := HX.out.later hB
    have HBW := Lib.hid (zab HB.out hB)
    obtain ⟨x0, x1, x2, z0, z1, z2⟩ := hX.cells
    have hXl := hX.lt
    obtain ⟨hq, hg⟩ := zae hX 4 2 ⟨#[]⟩
    have hb5 := HBW.out.grown hg HBW.out.size (fun q hq => by injection hq with hq; omega)
    clear hB hg
    go_wp2_with fail
    generalize ((w1.setCell ⟨w.heap.size, 0, none⟩ (.int .u8 4)).setCell ⟨w.heap.size, 1, none⟩ (.int .i64 2)).setCell ⟨w.heap.size, 2, none⟩ (.string ⟨#[]⟩) = w5 at *
    obtain ⟨y0, y1, y2, _, _, _⟩ := hq.cells
    refine bodyPost_ret (v := .agg #[.int .u8 4, .int .i64 2, .string ⟨#[]⟩]) (by simp [results, Tryz.results167, go_sem, y0, y1, y2]) rfl ⟨by rw [HE.out]; rfl, hb5⟩
end Go.Proofs.YtdhahiodnmmkeaaGreatDoor.Va
