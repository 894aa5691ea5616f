/- The reference's values of the functions of texts. -/
import Derived.Test.YtfjefanhkbcfgaaGreatDoorFuE
namespace Go.Proofs.YtfjefanhkbcfgaaGreatDoor.Va
open Go Go.RowKit GM
set_option linter.unusedVariables false
set_option linter.unusedSimpArgs false
set_option maxRecDepth 100000 in
set_option maxHeartbeats 6400000 in
theorem rv_31 (ta wa0 : Option Addr) (tn tc wn wc : Nat) (T : List ByteArray) (W0 : List Int) (w : World) (hT : IsT w ta tn T) (hW : IsW w wa0 wn W0) (s : ByteArray) (h0 : T[0]? = some s) (hs : s.size ≤ 4096) :
    Calls Tryz.prog 55 #[.int .u8 31, .slice ta tn tc, .slice wa0 wn wc] w fun e w' => e = .returned (vOf (cnV (s.size : Int))) ∧ Below w.heap.size w w' := by
  have HX : Hid (B3 (w.alloc (.cells #[.int .u8 0, .int .i64 0, .string ⟨#[]⟩] 25)) w.heap.size 0 0 ⟨#[]⟩) := B3.start w 0 0 ⟨#[]⟩
  have HB := Lib.hid (valloc w (.cells #[.int .u8 0, .int .i64 0, .string ⟨#[]⟩] 25))
  obtain ⟨nt0, bt0, ot0, ea0, lt0, ct0⟩ := isT_at (IsOf.later hT HB.out) h0
  rw [Nat.add_zero] at ct0
  subst ea0
  clear hT hW
  go_enter Tryz.func55, Tryz.ntmps55
  have hw1 : IntKind.i64.wrap ((s.size : Int) * 10000) = (s.size : Int) * 10000 := IntWalk.i64_in _ (by omega)
  obtain ⟨m1, m2⟩ := mk_pos (k := (s.size : Int)) (by omega)
  have HMK := Lib.hid (fun W => rmake_any ((s.size : Int) * 10000) (by unfold leastI; omega) W)
  rw [m1, m2] at HMK
  clear m1 m2
  go_wp2_with fail
  generalize w.alloc (.cells #[.int .u8 0, .int .i64 0, .string ⟨#[]⟩] 25) = wa at *
  refine (HMK.out _).mono ?_
  rintro e w1 ⟨rfl, hB⟩
  have hX : B3 w1 w.heap.size 0 0 ⟨#[]⟩ := HX.out.later hB
  have HBW := Lib.hid (vnext HB.out hB)
  obtain ⟨x0, x1, x2, z0, z1, z2⟩ := hX.cells
  have hXl := hX.lt
  obtain ⟨hq, hg⟩ := b3_set hX 1 ((s.size : Int) * 10000) ⟨#[]⟩
  have hb5 := HBW.out.grown hg HBW.out.size (fun q hq => by injection hq with hq; omega)
  clear hB hg
  go_wp2_with fail
  generalize ((w1.setCell ⟨w.heap.size, 0, none⟩ (.int .u8 1)).setCell ⟨w.heap.size, 1, none⟩ (.int .i64 ((s.size : Int) * 10000))).setCell ⟨w.heap.size, 2, none⟩ (.string ⟨#[]⟩) = w5 at *
  obtain ⟨y0, y1, y2, _, _, _⟩ := hq.cells
  refine bodyPost_ret (v := .agg #[.int .u8 1, .int .i64 ((s.size : Int) * 10000), .string ⟨#[]⟩]) (by simp [results, Tryz.results55, go_sem, y0, y1, y2]) rfl ⟨rfl, hb5⟩
set_option maxRecDepth 100000 in
set_option maxHeartbeats 6400000 in
theorem rv_35 (ta wa0 : Option Addr) (tn tc wn wc : Nat) (T : List ByteArray) (W0 : List Int) (w : World) (hT : IsT w ta tn T) (hW : IsW w wa0 wn W0) (s : ByteArray) (h0 : T[0]? = some s) (hs : s.size ≤ 4096) :
    Calls Tryz.prog 55 #[.int .u8 35, .slice ta tn tc, .slice wa0 wn wc] w fun e w' => e = .returned (vOf (txV (upS s))) ∧ Below w.heap.size w w' := by
  have HX : Hid (B3 (w.alloc (.cells #[.int .u8 0, .int .i64 0, .string ⟨#[]⟩] 25)) w.heap.size 0 0 ⟨#[]⟩) := B3.start w 0 0 ⟨#[]⟩
  have HB := Lib.hid (valloc w (.cells #[.int .u8 0, .int .i64 0, .string ⟨#[]⟩] 25))
  obtain ⟨nt0, bt0, ot0, ea0, lt0, ct0⟩ := isT_at (IsOf.later hT HB.out) h0
  rw [Nat.add_zero] at ct0
  subst ea0
  clear hT hW
  go_enter Tryz.func55, Tryz.ntmps55
  go_wp2_with fail
  generalize w.alloc (.cells #[.int .u8 0, .int .i64 0, .string ⟨#[]⟩] 25) = wa at *
  refine (rupper_any s (by unfold maxLen; omega) _).mono ?_
  rintro e w2 ⟨rfl, hB2⟩
  have HX2 := Lib.hid (HX.out.later hB2)
  have HB2 := Lib.hid (vnext HB.out hB2)
  clear hB2 HX HB
  have HX := HX2
  have HB := HB2
  clear HX2 HB2
  go_wp2_with fail
  have HV := Lib.hid (fun W => rtext_any (upS s) W)
  generalize hvv : txV (upS s) = vv at HV
  have HVV := Lib.hid hvv
  clear hvv
  obtain ⟨vk, vn, vs⟩ := vv
  unfold vOf at HV
  dsimp only at HV
  refine (HV.out _).mono ?_
  rintro e w1 ⟨rfl, hB⟩
  have hX : B3 w1 w.heap.size 0 0 ⟨#[]⟩ := HX.out.later hB
  have HBW := Lib.hid (vnext HB.out hB)
  obtain ⟨x0, x1, x2, z0, z1, z2⟩ := hX.cells
  have hXl := hX.lt
  obtain ⟨hq, hg⟩ := b3_set hX vk vn vs
  have hb5 := HBW.out.grown hg HBW.out.size (fun q hq => by injection hq with hq; omega)
  clear hB hg
  go_wp2_with fail
  generalize ((w1.setCell ⟨w.heap.size, 0, none⟩ (.int .u8 (vk : Int))).setCell ⟨w.heap.size, 1, none⟩ (.int .i64 vn)).setCell ⟨w.heap.size, 2, none⟩ (.string vs) = w5 at *
  obtain ⟨y0, y1, y2, _, _, _⟩ := hq.cells
  refine bodyPost_ret (v := .agg #[.int .u8 (vk : Int), .int .i64 vn, .string vs]) (by simp [results, Tryz.results55, go_sem, y0, y1, y2]) rfl ⟨by rw [HVV.out]; rfl, hb5⟩
set_option maxRecDepth 100000 in
set_option maxHeartbeats 6400000 in
theorem rv_36 (ta wa0 : Option Addr) (tn tc wn wc : Nat) (T : List ByteArray) (W0 : List Int) (w : World) (hT : IsT w ta tn T) (hW : IsW w wa0 wn W0) (s : ByteArray) (h0 : T[0]? = some s) (hs : s.size ≤ 4096) :
    Calls Tryz.prog 55 #[.int .u8 36, .slice ta tn tc, .slice wa0 wn wc] w fun e w' => e = .returned (vOf (txV (loS s))) ∧ Below w.heap.size w w' := by
  have HX : Hid (B3 (w.alloc (.cells #[.int .u8 0, .int .i64 0, .string ⟨#[]⟩] 25)) w.heap.size 0 0 ⟨#[]⟩) := B3.start w 0 0 ⟨#[]⟩
  have HB := Lib.hid (valloc w (.cells #[.int .u8 0, .int .i64 0, .string ⟨#[]⟩] 25))
  obtain ⟨nt0, bt0, ot0, ea0, lt0, ct0⟩ := isT_at (IsOf.later hT HB.out) h0
  rw [Nat.add_zero] at ct0
  subst ea0
  clear hT hW
  go_enter Tryz.func55, Tryz.ntmps55
  go_wp2_with fail
  generalize w.alloc (.cells #[.int .u8 0, .int .i64 0, .string ⟨#[]⟩] 25) = wa at *
  refine (rlower_any s (by unfold maxLen; omega) _).mono ?_
  rintro e w2 ⟨rfl, hB2⟩
  have HX2 := Lib.hid (HX.out.later hB2)
  have HB2 := Lib.hid (vnext HB.out hB2)
  clear hB2 HX HB
  have HX := HX2
  have HB := HB2
  clear HX2 HB2
  go_wp2_with fail
  have HV := Lib.hid (fun W => rtext_any (loS s) W)
  generalize hvv : txV (loS s) = vv at HV
  have HVV := Lib.hid hvv
  clear hvv
  obtain ⟨vk, vn, vs⟩ := vv
  unfold vOf at HV
  dsimp only at HV
  refine (HV.out _).mono ?_
  rintro e w1 ⟨rfl, hB⟩
  have hX : B3 w1 w.heap.size 0 0 ⟨#[]⟩ := HX.out.later hB
  have HBW := Lib.hid (vnext HB.out hB)
  obtain ⟨x0, x1, x2, z0, z1, z2⟩ := hX.cells
  have hXl := hX.lt
  obtain ⟨hq, hg⟩ := b3_set hX vk vn vs
  have hb5 := HBW.out.grown hg HBW.out.size (fun q hq => by injection hq with hq; omega)
  clear hB hg
  go_wp2_with fail
  generalize ((w1.setCell ⟨w.heap.size, 0, none⟩ (.int .u8 (vk : Int))).setCell ⟨w.heap.size, 1, none⟩ (.int .i64 vn)).setCell ⟨w.heap.size, 2, none⟩ (.string vs) = w5 at *
  obtain ⟨y0, y1, y2, _, _, _⟩ := hq.cells
  refine bodyPost_ret (v := .agg #[.int .u8 (vk : Int), .int .i64 vn, .string vs]) (by simp [results, Tryz.results55, go_sem, y0, y1, y2]) rfl ⟨by rw [HVV.out]; rfl, hb5⟩
set_option maxRecDepth 100000 in
set_option maxHeartbeats 6400000 in
theorem rv_37 (ta wa0 : Option Addr) (tn tc wn wc : Nat) (T : List ByteArray) (W0 : List Int) (w : World) (hT : IsT w ta tn T) (hW : IsW w wa0 wn W0) (s : ByteArray) (h0 : T[0]? = some s) (hs : s.size ≤ 4000) :
    Calls Tryz.prog 55 #[.int .u8 37, .slice ta tn tc, .slice wa0 wn wc] w fun e w' => e = .returned (vOf (txV (trimS s))) ∧ Below w.heap.size w w' := by
  have HX : Hid (B3 (w.alloc (.cells #[.int .u8 0, .int .i64 0, .string ⟨#[]⟩] 25)) w.heap.size 0 0 ⟨#[]⟩) := B3.start w 0 0 ⟨#[]⟩
  have HB := Lib.hid (valloc w (.cells #[.int .u8 0, .int .i64 0, .string ⟨#[]⟩] 25))
  obtain ⟨nt0, bt0, ot0, ea0, lt0, ct0⟩ := isT_at (IsOf.later hT HB.out) h0
  rw [Nat.add_zero] at ct0
  subst ea0
  clear hT hW
  go_enter Tryz.func55, Tryz.ntmps55
  go_wp2_with fail
  generalize w.alloc (.cells #[.int .u8 0, .int .i64 0, .string ⟨#[]⟩] 25) = wa at *
  refine (rtrim_any s hs _).mono ?_
  rintro e w2 ⟨rfl, hB2⟩
  rw [show str (trim s.data.toList) = trimS s from rfl]
  have HX2 := Lib.hid (HX.out.later hB2)
  have HB2 := Lib.hid (vnext HB.out hB2)
  clear hB2 HX HB
  have HX := HX2
  have HB := HB2
  clear HX2 HB2
  go_wp2_with fail
  have HV := Lib.hid (fun W => rtext_any (trimS s) W)
  generalize hvv : txV (trimS s) = vv at HV
  have HVV := Lib.hid hvv
  clear hvv
  obtain ⟨vk, vn, vs⟩ := vv
  unfold vOf at HV
  dsimp only at HV
  refine (HV.out _).mono ?_
  rintro e w1 ⟨rfl, hB⟩
  have hX : B3 w1 w.heap.size 0 0 ⟨#[]⟩ := HX.out.later hB
  have HBW := Lib.hid (vnext HB.out hB)
  obtain ⟨x0, x1, x2, z0, z1, z2⟩ := hX.cells
  have hXl := hX.lt
  obtain ⟨hq, hg⟩ := b3_set hX vk vn vs
  have hb5 := HBW.out.grown hg HBW.out.size (fun q hq => by injection hq with hq; omega)
  clear hB hg
  go_wp2_with fail
  generalize ((w1.setCell ⟨w.heap.size, 0, none⟩ (.int .u8 (vk : Int))).setCell ⟨w.heap.size, 1, none⟩ (.int .i64 vn)).setCell ⟨w.heap.size, 2, none⟩ (.string vs) = w5 at *
  obtain ⟨y0, y1, y2, _, _, _⟩ := hq.cells
  refine bodyPost_ret (v := .agg #[.int .u8 (vk : Int), .int .i64 vn, .string vs]) (by simp [results, Tryz.results55, go_sem, y0, y1, y2]) rfl ⟨by rw [HVV.out]; rfl, hb5⟩
set_option maxRecDepth 100000 in
set_option maxHeartbeats 6400000 in
theorem rv_42 (ta wa0 : Option Addr) (tn tc wn wc : Nat) (T : List ByteArray) (W0 : List Int) (w : World) (hT : IsT w ta tn T) (hW : IsW w wa0 wn W0) (s : ByteArray) (h0 : T[0]? = some s) (hs : s.size ≤ 256) (hTb : Tb w) :
    Calls Tryz.prog 55 #[.int .u8 42, .slice ta tn tc, .slice wa0 wn wc] w fun e w' => e = .returned (vOf (cvR 1 (txV s).1 (txV s).2.1 (txV s).2.2)) ∧ Below w.heap.size w w' := by
  have HX : Hid (B3 (w.alloc (.cells #[.int .u8 0, .int .i64 0, .string ⟨#[]⟩] 25)) w.heap.size 0 0 ⟨#[]⟩) := B3.start w 0 0 ⟨#[]⟩
  have HB := Lib.hid (valloc w (.cells #[.int .u8 0, .int .i64 0, .string ⟨#[]⟩] 25))
  obtain ⟨nt0, bt0, ot0, ea0, lt0, ct0⟩ := isT_at (IsOf.later hT HB.out) h0
  rw [Nat.add_zero] at ct0
  subst ea0
  clear hT hW
  go_enter Tryz.func55, Tryz.ntmps55
  go_wp2_with fail
  generalize w.alloc (.cells #[.int .u8 0, .int .i64 0, .string ⟨#[]⟩] 25) = wa at *
  have HTB := Lib.hid hTb
  clear hTb
  have HTX : Hid (cvR 1 (txV s).1 (txV s).2.1 (txV s).2.2 = cvR 1 3 0 s) := by unfold Hid; rw [show txV s = (3, 0, s) from if_neg (by omega)]
  have HTN := Lib.hid (fun W (hW : Below w.heap.size w W) => rto_num 3 0 s (by omega) (by unfold InI; decide) W (HTB.out.later hW))
  obtain ⟨rr, hr⟩ : ∃ r, cvR 1 3 0 s = r := ⟨_, rfl⟩
  rw [hr] at HTN
  have HRR := Lib.hid hr
  clear hr
  obtain ⟨vk, vn, vs⟩ := rr
  dsimp only at HTN
  refine (HTN.out _ HB.out).mono ?_
  rintro e w1 ⟨rfl, hB⟩
  have hX : B3 w1 w.heap.size 0 0 ⟨#[]⟩ := HX.out.later hB
  have HBW := Lib.hid (vnext HB.out hB)
  obtain ⟨x0, x1, x2, z0, z1, z2⟩ := hX.cells
  have hXl := hX.lt
  obtain ⟨hq, hg⟩ := b3_set hX vk vn vs
  have hb5 := HBW.out.grown hg HBW.out.size (fun q hq => by injection hq with hq; omega)
  clear hB hg
  go_wp2_with fail
  generalize ((w1.setCell ⟨w.heap.size, 0, none⟩ (.int .u8 (vk : Int))).setCell ⟨w.heap.size, 1, none⟩ (.int .i64 vn)).setCell ⟨w.heap.size, 2, none⟩ (.string vs) = w5 at *
  obtain ⟨y0, y1, y2, _, _, _⟩ := hq.cells
  refine bodyPost_ret (v := .agg #[.int .u8 (vk : Int), .int .i64 vn, .string vs]) (by simp [results, Tryz.results55, go_sem, y0, y1, y2]) rfl ⟨by rw [HTX.out, HRR.out]; rfl, hb5⟩
theorem joinB_snoc (T : List ByteArray) (k : Nat) (hk : k < T.length) : joinB (T.take k) ++ T[k] = joinB (T.take (k + 1)) := by
  apply ba_ext
  unfold joinB
  rw [join_flat, join_flat, List.take_succ_eq_append_getElem hk, List.map_append, List.flatten_append]
  simp
set_option maxRecDepth 100000 in
set_option maxHeartbeats 6400000 in
theorem rv_38 (ta wa0 : Option Addr) (tn tc wn wc : Nat) (T : List ByteArray) (W0 : List Int) (w : World) (hT : IsT w ta tn T) (hW : IsW w wa0 wn W0) (hz : ∀ t ∈ T, t.size ≤ 256) (hn : tn ≤ 20) :
    Calls Tryz.prog 55 #[.int .u8 38, .slice ta tn tc, .slice wa0 wn wc] w fun e w' => e = .returned (vOf (txV (joinB T))) ∧ Below w.heap.size w w' := by
  have HX : Hid (B3 (w.alloc (.cells #[.int .u8 0, .int .i64 0, .string ⟨#[]⟩] 25)) w.heap.size 0 0 ⟨#[]⟩) := B3.start w 0 0 ⟨#[]⟩
  have HB := Lib.hid (valloc w (.cells #[.int .u8 0, .int .i64 0, .string ⟨#[]⟩] 25))
  have HT := Lib.hid hT
  have HZ := Lib.hid hz
  have HTL := Lib.hid hT.1
  clear hT hW hz
  go_enter Tryz.func55, Tryz.ntmps55
  go_wp2_with fail
  generalize w.alloc (.cells #[.int .u8 0, .int .i64 0, .string ⟨#[]⟩] 25) = wa at *
  go_loopw [7, 8] (fun u i wr => ∃ k : Nat, k ≤ tn ∧ u = .string (joinB (T.take k)) ∧ i = .int .i64 (k : Int) ∧ wr = wa) (fun _ i _ => tn - (intOf i).toNat)
  case atStart => exact ⟨0, Nat.zero_le _, rfl, rfl, rfl⟩
  case round =>
    obtain ⟨k, hk, rfl, rfl, rfl⟩ := hrel
    by_cases hlt : k < tn
    · have hkl : k < T.length := by rw [HTL.out]; exact hlt
      obtain ⟨nt0, bt0, ot0, ea0, lt0, ct0⟩ := isT_at (IsOf.later HT.out HB.out) (List.getElem?_eq_getElem hkl)
      subst ea0
      have h1 := joinB_sz (T.take k) (fun t ht => HZ.out t (List.mem_of_mem_take ht))
      have h2 := HZ.out _ (List.getElem_mem hkl)
      rw [List.length_take] at h1
      have hadd := fun W => run_string_add_sum (P := Tryz.prog) W (joinB (T.take k)) T[k] (by omega)
      rw [joinB_snoc T k hkl] at hadd
      obtain ⟨R, HR⟩ : ∃ R, Hid (joinB (T.take (k + 1)) = R) := ⟨_, rfl⟩
      rw [HR.out] at hadd
      clear h1 h2
      generalize T[k] = tk at *
      generalize joinB (T.take k) = J at *
      go_wp2_with fail
      exact ⟨⟨k + 1, by omega, by rw [HR.out], by go_num, trivial⟩, by simp [intOf]; omega⟩
    · have HE : Hid (joinB T = joinB (T.take k)) := by unfold Hid; rw [List.take_of_length_le (by rw [HTL.out]; omega)]
      generalize joinB (T.take k) = J at *
      clear hk
      go_wp2_with fail
      have HV := Lib.hid (fun W => rtext_any J W)
      generalize hvv : txV J = vv at HV
      have HVV := Lib.hid hvv
      clear hvv
      obtain ⟨vk, vn, vs⟩ := vv
      unfold vOf at HV
      dsimp only at HV
      refine (HV.out _).mono ?_
      rintro e w1 ⟨rfl, hB⟩
      have hX : B3 w1 w.heap.size 0 0 ⟨#[]⟩ := HX.out.later hB
      have HBW := Lib.hid (vnext HB.out hB)
      obtain ⟨x0, x1, x2, z0, z1, z2⟩ := hX.cells
      have hXl := hX.lt
      obtain ⟨hq, hg⟩ := b3_set hX vk vn vs
      have hb5 := HBW.out.grown hg HBW.out.size (fun q hq => by injection hq with hq; omega)
      clear hB hg
      go_wp2_with fail
      generalize ((w1.setCell ⟨w.heap.size, 0, none⟩ (.int .u8 (vk : Int))).setCell ⟨w.heap.size, 1, none⟩ (.int .i64 vn)).setCell ⟨w.heap.size, 2, none⟩ (.string vs) = w5 at *
      obtain ⟨y0, y1, y2, _, _, _⟩ := hq.cells
      refine bodyPost_ret (v := .agg #[.int .u8 (vk : Int), .int .i64 vn, .string vs]) (by simp [results, Tryz.results55, go_sem, y0, y1, y2]) rfl ⟨by rw [HE.out, HVV.out]; rfl, hb5⟩
set_option maxRecDepth 100000 in
set_option maxHeartbeats 6400000 in
theorem rv_39 (ta wa0 : Option Addr) (tn tc wn wc : Nat) (T : List ByteArray) (W0 : List Int) (w : World) (hT : IsT w ta tn T) (hW : IsW w wa0 wn W0) (s : ByteArray) (h0 : T[0]? = some s) (hs : s.size ≤ 4096) (n : Int) (j0 : W0[0]? = some n) (hn : n ≤ 9223372036854775807) :
    Calls Tryz.prog 55 #[.int .u8 39, .slice ta tn tc, .slice wa0 wn wc] w fun e w' => e = .returned (vOf (reptV s n)) ∧ Below w.heap.size w w' := by
  have HX : Hid (B3 (w.alloc (.cells #[.int .u8 0, .int .i64 0, .string ⟨#[]⟩] 25)) w.heap.size 0 0 ⟨#[]⟩) := B3.start w 0 0 ⟨#[]⟩
  have HB := Lib.hid (valloc w (.cells #[.int .u8 0, .int .i64 0, .string ⟨#[]⟩] 25))
  obtain ⟨nt0, bt0, ot0, ea0, lt0, ct0⟩ := isT_at (IsOf.later hT HB.out) h0
  obtain ⟨nw0, bw0, ow0, eb0, lw0, cw0⟩ := isW_at (IsOf.later hW HB.out) j0
  rw [Nat.add_zero] at ct0
  rw [Nat.add_zero] at cw0
  subst ea0
  subst eb0
  clear hT hW
  go_enter Tryz.func55, Tryz.ntmps55
  go_wp2_with fail
  generalize w.alloc (.cells #[.int .u8 0, .int .i64 0, .string ⟨#[]⟩] 25) = wa at *
  have HV := Lib.hid (fun W => rrept_any s n hn hs W)
  generalize hvv : reptV s n = vv at HV
  have HVV := Lib.hid hvv
  clear hvv
  obtain ⟨vk, vn, vs⟩ := vv
  unfold vOf at HV
  dsimp only at HV
  go_region_law (first
    | (go_simp; refine (HV.out _).mono ?_; rintro e w1 ⟨rfl, hB⟩; have hX : B3 w1 w.heap.size 0 0 ⟨#[]⟩ := B3.later (w := wa.drew) HX.out hB; have HBW := Lib.hid (vnext HB.out.drew hB); obtain ⟨x0, x1, x2, z0, z1, z2⟩ := hX.cells; have hXl := hX.lt; obtain ⟨hq, hg⟩ := b3_set hX vk vn vs; have HQ := Lib.hid hq; have HB5 := Lib.hid (HBW.out.grown hg HBW.out.size (fun q hq => by injection hq with hq; omega)); clear hB hg hq)
    | fail)
  all_goals
    go_wp2_with fail
    generalize ((w1.setCell ⟨w.heap.size, 0, none⟩ (.int .u8 (vk : Int))).setCell ⟨w.heap.size, 1, none⟩ (.int .i64 vn)).setCell ⟨w.heap.size, 2, none⟩ (.string vs) = w5 at *
    obtain ⟨y0, y1, y2, _, _, _⟩ := HQ.out.cells
    refine bodyPost_ret (v := .agg #[.int .u8 (vk : Int), .int .i64 vn, .string vs]) (by simp [results, Tryz.results55, go_sem, y0, y1, y2]) rfl ⟨by rw [HVV.out]; rfl, HB5.out⟩
set_option maxRecDepth 100000 in
set_option maxHeartbeats 6400000 in
theorem rv_40 (ta wa0 : Option Addr) (tn tc wn wc : Nat) (T : List ByteArray) (W0 : List Int) (w : World) (hT : IsT w ta tn T) (hW : IsW w wa0 wn W0) (s t : ByteArray) (h0 : T[0]? = some s) (h1 : T[1]? = some t) :
    Calls Tryz.prog 55 #[.int .u8 40, .slice ta tn tc, .slice wa0 wn wc] w fun e w' => e = .returned (vOf (exactV s t)) ∧ Below w.heap.size w w' := by
  have HX : Hid (B3 (w.alloc (.cells #[.int .u8 0, .int .i64 0, .string ⟨#[]⟩] 25)) w.heap.size 0 0 ⟨#[]⟩) := B3.start w 0 0 ⟨#[]⟩
  have HB := Lib.hid (valloc w (.cells #[.int .u8 0, .int .i64 0, .string ⟨#[]⟩] 25))
  obtain ⟨nt0, bt0, ot0, ea0, lt0, ct0⟩ := isT_at (IsOf.later hT HB.out) h0
  obtain ⟨nt1, bt1, ot1, ea1, lt1, ct1⟩ := isT_at (IsOf.later hT HB.out) h1
  rw [Nat.add_zero] at ct0
  subst ea0
  cases ea1
  have ix1 : (1 : Int) < (tn : Int) := by omega
  clear hT hW
  go_enter Tryz.func55, Tryz.ntmps55
  go_wp2_with fail
  generalize w.alloc (.cells #[.int .u8 0, .int .i64 0, .string ⟨#[]⟩] 25) = wa at *
  have HV := Lib.hid (fun W => rtruth_any (decide (s = t)) W)
  obtain ⟨vn, hvn⟩ : ∃ x, b2i (decide (s = t)) = x := ⟨_, rfl⟩
  rw [hvn] at HV
  have HVV : Hid (exactV s t = (2, vn, ⟨#[]⟩)) := by unfold Hid exactV; rw [hvn]
  clear hvn
  have hel := tl_eq s t
  go_region_law (first
    | (go_simp; refine (HV.out _).mono ?_; rintro e w1 ⟨rfl, hB⟩; have hX : B3 w1 w.heap.size 0 0 ⟨#[]⟩ := B3.later (w := wa.drew) HX.out hB; have HBW := Lib.hid (vnext HB.out.drew hB); obtain ⟨x0, x1, x2, z0, z1, z2⟩ := hX.cells; have hXl := hX.lt; obtain ⟨hq, hg⟩ := b3_set hX 2 vn ⟨#[]⟩; have HQ := Lib.hid hq; have HB5 := Lib.hid (HBW.out.grown hg HBW.out.size (fun q hq => by injection hq with hq; omega)); clear hB hg hq)
    | fail)
  all_goals
    go_wp2_with fail
    generalize ((w1.setCell ⟨w.heap.size, 0, none⟩ (.int .u8 2)).setCell ⟨w.heap.size, 1, none⟩ (.int .i64 vn)).setCell ⟨w.heap.size, 2, none⟩ (.string ⟨#[]⟩) = w5 at *
    obtain ⟨y0, y1, y2, _, _, _⟩ := HQ.out.cells
    refine bodyPost_ret (v := .agg #[.int .u8 2, .int .i64 vn, .string ⟨#[]⟩]) (by simp [results, Tryz.results55, go_sem, y0, y1, y2]) rfl ⟨by rw [HVV.out]; rfl, HB5.out⟩
set_option maxRecDepth 100000 in
set_option maxHeartbeats 6400000 in
theorem rv_41 (ta wa0 : Option Addr) (tn tc wn wc : Nat) (T : List ByteArray) (W0 : List Int) (w : World) (hT : IsT w ta tn T) (hW : IsW w wa0 wn W0) (s t : ByteArray) (h0 : T[0]? = some s) (h1 : T[1]? = some t) (hs : s.size ≤ 4096) (ht : t.size ≤ 4096) (n : Int) (hn : n ≤ 9223372036854775807) (hW0 : (W0 = [] ∧ n = 1) ∨ W0[0]? = some n) (hwn : wn ≤ 20) :
    Calls Tryz.prog 55 #[.int .u8 41, .slice ta tn tc, .slice wa0 wn wc] w fun e w' => e = .returned (vOf (findV s t n)) ∧ Below w.heap.size w w' := by
  have HX : Hid (B3 (w.alloc (.cells #[.int .u8 0, .int .i64 0, .string ⟨#[]⟩] 25)) w.heap.size 0 0 ⟨#[]⟩) := B3.start w 0 0 ⟨#[]⟩
  have HB := Lib.hid (valloc w (.cells #[.int .u8 0, .int .i64 0, .string ⟨#[]⟩] 25))
  obtain ⟨nt0, bt0, ot0, ea0, lt0, ct0⟩ := isT_at (IsOf.later hT HB.out) h0
  obtain ⟨nt1, bt1, ot1, ea1, lt1, ct1⟩ := isT_at (IsOf.later hT HB.out) h1
  rw [Nat.add_zero] at ct0
  subst ea0
  cases ea1
  have ix1 : (1 : Int) < (tn : Int) := by omega
  have HWW := Lib.hid (IsOf.later hW HB.out)
  have HW0 := Lib.hid hW0
  clear hT hW hW0
  go_enter Tryz.func55, Tryz.ntmps55
  go_upto_if 79 with (fail)
  generalize w.alloc (.cells #[.int .u8 0, .int .i64 0, .string ⟨#[]⟩] 25) = wa at *
  go_cut [9] (fun z wx => z = .int .i64 n ∧ wx = wa)
  case first =>
    rcases HW0.out with ⟨rfl, rfl⟩ | m1
    · obtain rfl : wn = 0 := HWW.out.1.symm
      go_wp2_with fail
      go_meet
      case rel => exact ⟨rfl, rfl⟩
    · obtain ⟨nw0, bw0, ow0, eb0, lw0, cw0⟩ := isW_at HWW.out m1
      subst eb0
      rw [Nat.add_zero] at cw0
      go_wp2_with fail
      go_meet
      case rel => exact ⟨rfl, rfl⟩
  case rest =>
    obtain ⟨rfl, rfl⟩ := hcut
    clear HWW HW0
    go_wp2_with fail
    have HV := Lib.hid (fun W => rfind_any s t n hn hs ht W)
    generalize hvv : findV s t n = vv at HV
    have HVV := Lib.hid hvv
    clear hvv
    obtain ⟨vk, vn, vs⟩ := vv
    unfold vOf at HV
    dsimp only at HV
    go_region_law (first
      | (go_simp; refine (HV.out _).mono ?_; rintro e w1 ⟨rfl, hB⟩; have hX : B3 w1 w.heap.size 0 0 ⟨#[]⟩ := B3.later (w := wc.drew) HX.out hB; have HBW := Lib.hid (vnext HB.out.drew hB); obtain ⟨x0, x1, x2, z0, z1, z2⟩ := hX.cells; have hXl := hX.lt; obtain ⟨hq, hg⟩ := b3_set hX vk vn vs; have HQ := Lib.hid hq; have HB5 := Lib.hid (HBW.out.grown hg HBW.out.size (fun q hq => by injection hq with hq; omega)); clear hB hg hq)
      | fail)
    all_goals
      go_wp2_with fail
      generalize ((w1.setCell ⟨w.heap.size, 0, none⟩ (.int .u8 (vk : Int))).setCell ⟨w.heap.size, 1, none⟩ (.int .i64 vn)).setCell ⟨w.heap.size, 2, none⟩ (.string vs) = w5 at *
      obtain ⟨y0, y1, y2, _, _, _⟩ := HQ.out.cells
      refine bodyPost_ret (v := .agg #[.int .u8 (vk : Int), .int .i64 vn, .string vs]) (by simp [results, Tryz.results55, go_sem, y0, y1, y2]) rfl ⟨by rw [HVV.out]; rfl, HB5.out⟩
end Go.Proofs.YtfjefanhkbcfgaaGreatDoor.Va
