/- The reference's Call of a function of texts. -/
import Derived.Test.YtfjefanhkbcfgaaGreatDoorFuF
namespace Go.Proofs.YtfjefanhkbcfgaaGreatDoor.Va
open Go Go.RowKit GM
set_option linter.unusedVariables false
set_option linter.unusedSimpArgs false
theorem convR_last : ∀ (ks : List UInt8) (L : List V3) (T : List ByteArray) (W : List Int) (T' : List ByteArray) (W' : List Int), convR ks L T W = .inl (T', W') → ∃ W0, W' = W0 ++ [1]
  | [], L, T, W, T', W', h => by
    have e : convR [] L T W = .inl (T, W ++ [1]) := by cases L <;> rfl
    rw [e] at h
    injection h with h
    injection h with h1 h2
    exact ⟨W, h2.symm⟩
  | c :: cs, [], T, W, T', W', h => by
    have e : convR (c :: cs) [] T W = .inl (T, W ++ [1]) := rfl
    rw [e] at h
    injection h with h
    injection h with h1 h2
    exact ⟨W, h2.symm⟩
  | c :: cs, v :: L, T, W, T', W', h => by
    have e : convR (c :: cs) (v :: L) T W = if (cvK c v).1 = 4 then .inr (cvK c v) else if c = 115 then convR cs L (T ++ [(cvK c v).2.2]) W else convR cs L T (W ++ [(truncZ (cvK c v).2.1).tdiv 10000]) := rfl
    rw [e] at h
    split at h
    · cases h
    · split at h
      · exact convR_last cs L _ _ T' W' h
      · exact convR_last cs L _ _ T' W' h
theorem last_at {W0 : List Int} (h : 1 ≤ W0.length) : W0[0]? = some (n0 (W0 ++ [1])) := by
  unfold n0
  rw [List.getD_eq_getElem?_getD, List.getElem?_append_left (by omega), List.getElem?_eq_getElem (by omega)]; rfl
theorem last_at1 {W0 : List Int} (h : 2 ≤ W0.length) : W0[1]? = some (n1 (W0 ++ [1])) := by
  unfold n1
  rw [List.getD_eq_getElem?_getD, List.getElem?_append_left (by omega), List.getElem?_eq_getElem (by omega)]; rfl
theorem last_or (W0 : List Int) : (W0 = [] ∧ n0 (W0 ++ [1]) = 1) ∨ W0[0]? = some (n0 (W0 ++ [1])) := by
  cases W0 with
  | nil => exact .inl ⟨rfl, rfl⟩
  | cons x l => exact .inr (last_at (by simp))
set_option maxHeartbeats 3200000 in
theorem rcall_name (fn : Nat) (hf : fn < 31 ∨ 42 < fn) (a : Option Addr) (n cap : Nat) (w : World) :
    Calls Tryz.prog 20 #[.int .u8 (fn : Int), .slice a n cap] w fun e w' => e = .returned (.tuple #[.agg #[.int .u8 0, .int .i64 0, .string ⟨#[]⟩], .int .i64 10]) ∧ Below w.heap.size w w' := by
  have HX : Hid (B3 (w.alloc (.cells #[.int .u8 0, .int .i64 0, .string ⟨#[]⟩] 25)) w.heap.size 0 0 ⟨#[]⟩) := B3.start w 0 0 ⟨#[]⟩
  have HB := Lib.hid (valloc w (.cells #[.int .u8 0, .int .i64 0, .string ⟨#[]⟩] 25))
  by_cases h1 : fn < 31
  · have d1 : decide ((fn : Int) < 31) = true := by simp; omega
    go_enter Tryz.func20, Tryz.ntmps20
    go_wp2_with fail
    refine bodyPost_ret (v := .tuple #[.agg #[.int .u8 0, .int .i64 0, .string ⟨#[]⟩], .int .i64 10]) (by simp [results, Tryz.results20, go_sem]) rfl ⟨rfl, HB.out⟩
  · have d1 : decide ((fn : Int) < 31) = false := by simp; omega
    have d2 : decide ((42 : Int) < (fn : Int)) = true := by simp; omega
    go_enter Tryz.func20, Tryz.ntmps20
    go_wp2_with fail
    refine bodyPost_ret (v := .tuple #[.agg #[.int .u8 0, .int .i64 0, .string ⟨#[]⟩], .int .i64 10]) (by simp [results, Tryz.results20, go_sem]) rfl ⟨rfl, HB.out⟩
set_option maxHeartbeats 3200000 in
theorem rcall_count (fn : Nat) (hf1 : 31 ≤ fn) (hf2 : fn ≤ 42) (a : Option Addr) (n cap : Nat) (hn : n ≤ 20) (hc : ¬ ((arV fn).1 ≤ n ∧ n ≤ (arV fn).2)) (w : World) :
    Calls Tryz.prog 20 #[.int .u8 (fn : Int), .slice a n cap] w fun e w' => e = .returned (.tuple #[.agg #[.int .u8 0, .int .i64 0, .string ⟨#[]⟩], .int .i64 11]) ∧ Below w.heap.size w w' := by
  have HX : Hid (B3 (w.alloc (.cells #[.int .u8 0, .int .i64 0, .string ⟨#[]⟩] 25)) w.heap.size 0 0 ⟨#[]⟩) := B3.start w 0 0 ⟨#[]⟩
  have HB := Lib.hid (valloc w (.cells #[.int .u8 0, .int .i64 0, .string ⟨#[]⟩] 25))
  have d1 : decide ((fn : Int) < 31) = false := by simp; omega
  have d2 : decide ((42 : Int) < (fn : Int)) = false := by simp; omega
  have HCN := Lib.hid (fun W => rcount_any fn n (by omega) W (rar_text fn hf1 hf2))
  rw [decide_eq_false hc] at HCN
  go_enter Tryz.func20, Tryz.ntmps20
  go_wp2_with fail
  generalize w.alloc (.cells #[.int .u8 0, .int .i64 0, .string ⟨#[]⟩] 25) = wa at *
  refine (HCN.out _).mono ?_
  rintro e w1 ⟨rfl, hB1⟩
  have HX1 := Lib.hid (HX.out.later hB1)
  have HB1 := Lib.hid (vnext HB.out hB1)
  clear hB1 HX HB
  have hX3 := HX1.out
  have HB3 := HB1
  obtain ⟨x0, x1, x2, z0, z1, z2⟩ := hX3.cells
  have hXl := hX3.lt
  obtain ⟨hq, hg⟩ := b3_set hX3 0 0 ⟨#[]⟩
  have hb5 := HB3.out.grown hg HB3.out.size (fun q hq => by injection hq with hq; omega)
  clear hg
  go_wp2_with fail
  generalize ((w1.setCell ⟨w.heap.size, 0, none⟩ (.int .u8 0)).setCell ⟨w.heap.size, 1, none⟩ (.int .i64 0)).setCell ⟨w.heap.size, 2, none⟩ (.string ⟨#[]⟩) = w5 at *
  obtain ⟨v0, v1, v2, _, _, _⟩ := hq.cells
  refine bodyPost_ret (v := .tuple #[.agg #[.int .u8 0, .int .i64 0, .string ⟨#[]⟩], .int .i64 11]) (by simp [results, Tryz.results20, go_sem, v0, v1, v2]) rfl ⟨rfl, hb5⟩
set_option maxHeartbeats 3200000 in
theorem rcall_arg (fn : Nat) (hf1 : 31 ≤ fn) (hf2 : fn ≤ 42) (a : Option Addr) (n cap : Nat) (L : List V3) (hn : n ≤ 20) (hc : (arV fn).1 ≤ n ∧ n ≤ (arV fn).2) (w : World) (hL : IsV w a n L) (hv : ∀ v ∈ L, v.2.2.size ≤ 2000 ∧ InI v.2.1) (hb : okL L = false) :
    Calls Tryz.prog 20 #[.int .u8 (fn : Int), .slice a n cap] w fun e w' => e = .returned (.tuple #[.agg #[.int .u8 0, .int .i64 0, .string ⟨#[]⟩], .int .i64 2]) ∧ Below w.heap.size w w' := by
  have HX : Hid (B3 (w.alloc (.cells #[.int .u8 0, .int .i64 0, .string ⟨#[]⟩] 25)) w.heap.size 0 0 ⟨#[]⟩) := B3.start w 0 0 ⟨#[]⟩
  have HB := Lib.hid (valloc w (.cells #[.int .u8 0, .int .i64 0, .string ⟨#[]⟩] 25))
  have d1 : decide ((fn : Int) < 31) = false := by simp; omega
  have d2 : decide ((42 : Int) < (fn : Int)) = false := by simp; omega
  have HCN := Lib.hid (fun W => rcount_any fn n (by omega) W (rar_text fn hf1 hf2))
  rw [decide_eq_true hc] at HCN
  have HVA := Lib.hid (fun W hW => rvalid_any a n cap L (by omega) W hW (fun v h => ⟨Nat.le_trans (hv v h).1 (by unfold maxLen; decide), by have := (hv v h).2; unfold InI at this; unfold leastI; omega⟩))
  have HL := Lib.hid hL
  rw [hb] at HVA
  clear hL hv
  go_enter Tryz.func20, Tryz.ntmps20
  go_wp2_with fail
  generalize w.alloc (.cells #[.int .u8 0, .int .i64 0, .string ⟨#[]⟩] 25) = wa at *
  refine (HCN.out _).mono ?_
  rintro e w1 ⟨rfl, hB1⟩
  have HX1 := Lib.hid (HX.out.later hB1)
  have HB1 := Lib.hid (vnext HB.out hB1)
  clear hB1 HX HB
  go_wp2_with fail
  refine (HVA.out _ (IsOf.later HL.out HB1.out)).mono ?_
  rintro e w2 ⟨rfl, hB2⟩
  have HX2 := Lib.hid (HX1.out.later hB2)
  have HB2 := Lib.hid (vnext HB1.out hB2)
  clear hB2 HX1 HB1
  have hX3 := HX2.out
  have HB3 := HB2
  obtain ⟨x0, x1, x2, z0, z1, z2⟩ := hX3.cells
  have hXl := hX3.lt
  obtain ⟨hq, hg⟩ := b3_set hX3 0 0 ⟨#[]⟩
  have hb5 := HB3.out.grown hg HB3.out.size (fun q hq => by injection hq with hq; omega)
  clear hg
  go_wp2_with fail
  generalize ((w2.setCell ⟨w.heap.size, 0, none⟩ (.int .u8 0)).setCell ⟨w.heap.size, 1, none⟩ (.int .i64 0)).setCell ⟨w.heap.size, 2, none⟩ (.string ⟨#[]⟩) = w5 at *
  obtain ⟨v0, v1, v2, _, _, _⟩ := hq.cells
  refine bodyPost_ret (v := .tuple #[.agg #[.int .u8 0, .int .i64 0, .string ⟨#[]⟩], .int .i64 2]) (by simp [results, Tryz.results20, go_sem, v0, v1, v2]) rfl ⟨rfl, hb5⟩
set_option maxRecDepth 100000 in
set_option maxHeartbeats 6400000 in
theorem rcall_31 (a : Option Addr) (n cap : Nat) (L : List V3) (w : World) (hL : IsV w a n L) (hl : 1 ≤ n) (hn : n ≤ 1) (hv : ∀ v ∈ L, v.2.2.size ≤ 2000 ∧ InI v.2.1) (hb : okL L = true) (hT : Tb w) :
    Calls Tryz.prog 20 #[.int .u8 31, .slice a n cap] w fun e w' => e = .returned (.tuple #[vOf (resV 31 (convR [115] L [] [])), .int .i64 0]) ∧ Below w.heap.size w w' := by
  have HX : Hid (B3 (w.alloc (.cells #[.int .u8 0, .int .i64 0, .string ⟨#[]⟩] 25)) w.heap.size 0 0 ⟨#[]⟩) := B3.start w 0 0 ⟨#[]⟩
  have HB := Lib.hid (valloc w (.cells #[.int .u8 0, .int .i64 0, .string ⟨#[]⟩] 25))
  have HCN := Lib.hid (fun W => rcount_any 31 n (by omega) W rar_31)
  rw [decide_eq_true (show (arV 31).1 ≤ n ∧ n ≤ (arV 31).2 from ⟨hl, hn⟩)] at HCN
  have HVA := Lib.hid (fun W hW => rvalid_any a n cap L (by omega) W hW (fun v h => ⟨Nat.le_trans (hv v h).1 (by unfold maxLen; decide), by have := (hv v h).2; unfold InI at this; unfold leastI; omega⟩))
  have HL := Lib.hid hL
  rw [hb] at HVA
  have HT := Lib.hid hT
  have HCO := Lib.hid (fun W hW hT => rconvert_any 31 ⟨#[115]⟩ a n cap L W hW hn (by decide) (by decide) wh_31 hv hT)
  have HF := Lib.hid (fun T W' => convR_facts [115] L [] [] T W' (fun v h => (hv v h).2) (by decide))
  have HNL := Lib.hid hL.1
  rw [show (⟨#[115]⟩ : ByteArray).data.toList = [115] from rfl] at HCO
  obtain ⟨R, hR⟩ : ∃ R, convR [115] L [] [] = R := ⟨_, rfl⟩
  rw [hR] at HCO
  have HR := Lib.hid hR
  clear hL hv hT hR
  go_enter Tryz.func20, Tryz.ntmps20
  go_wp2_with fail
  generalize w.alloc (.cells #[.int .u8 0, .int .i64 0, .string ⟨#[]⟩] 25) = wa at *
  refine (HCN.out _).mono ?_
  rintro e w1 ⟨rfl, hB1⟩
  have HX1 := Lib.hid (HX.out.later hB1)
  have HB1 := Lib.hid (vnext HB.out hB1)
  clear hB1 HX HB
  go_wp2_with fail
  refine (HVA.out _ (IsOf.later HL.out HB1.out)).mono ?_
  rintro e w2 ⟨rfl, hB2⟩
  have HX2 := Lib.hid (HX1.out.later hB2)
  have HB2 := Lib.hid (vnext HB1.out hB2)
  clear hB2 HX1 HB1
  go_wp2_with fail
  refine (HCO.out _ (IsOf.later HL.out HB2.out) (HT.out.later HB2.out)).mono ?_
  rintro e w3 ⟨hRV, hB3⟩
  have HX3 := Lib.hid (HX2.out.later hB3)
  have HB3 := Lib.hid (vnext HB2.out hB3)
  clear hB3 HX2 HB2
  clear HCN HVA HCO HL
  cases R with
  | inr x =>
    obtain ⟨xk, xn, xs⟩ := x
    obtain rfl : e = .returned (.tuple #[.slice none 0 0, .slice none 0 0, .agg #[.int .u8 (xk : Int), .int .i64 xn, .string xs], .bool false]) := hRV
    have HE : Hid (resV 31 (convR [115] L [] []) = (xk, xn, xs)) := by unfold Hid; rw [HR.out]; rfl
    have HY := Lib.hid (B3.start w3 xk xn xs)
    have l4 := valloc w3 (.cells #[.int .u8 (xk : Int), .int .i64 xn, .string xs] 25)
    have HX4 := Lib.hid (HX3.out.later l4)
    have HB4 := Lib.hid (vnext HB3.out l4)
    clear l4 HX3 HB3
    go_upto_region 8 with fail
    generalize w3.alloc (.cells #[.int .u8 (xk : Int), .int .i64 xn, .string xs] 25) = w4 at *
    obtain ⟨y0, y1, y2, _, _, _⟩ := HY.out.cells
    have hyl := HY.out.lt
    have hX3 := HX4.out
    have HB3 := HB4
    obtain ⟨x0, x1, x2, z0, z1, z2⟩ := hX3.cells
    have hXl := hX3.lt
    obtain ⟨hq, hg⟩ := b3_set hX3 xk xn xs
    have hb5 := HB3.out.grown hg HB3.out.size (fun q hq => by injection hq with hq; omega)
    clear hg
    go_wp2_with fail
    generalize ((w4.setCell ⟨w.heap.size, 0, none⟩ (.int .u8 (xk : Int))).setCell ⟨w.heap.size, 1, none⟩ (.int .i64 xn)).setCell ⟨w.heap.size, 2, none⟩ (.string xs) = w5 at *
    obtain ⟨v0, v1, v2, _, _, _⟩ := hq.cells
    refine bodyPost_ret (v := .tuple #[.agg #[.int .u8 (xk : Int), .int .i64 xn, .string xs], .int .i64 0]) (by simp [results, Tryz.results20, go_sem, v0, v1, v2]) rfl ⟨by rw [HE.out]; rfl, hb5⟩
  | inl p =>
    obtain ⟨T, W'⟩ := p
    obtain ⟨u, v, hev, hOT, hON⟩ := hRV
    obtain rfl : e = .returned (.tuple #[u, v, .agg #[.int .u8 0, .int .i64 0, .string ⟨#[]⟩], .bool true]) := hev
    dsimp only at hOT hON
    obtain ⟨W0, rfl⟩ := convR_last _ _ _ _ _ _ HR.out
    rw [List.dropLast_concat] at hON
    obtain ⟨ta, tc, rfl, hTT⟩ := hOT.isOf cellsT_len
    obtain ⟨wa0, wc, rfl, hW⟩ := hON.isOf cellsW_len
    obtain ⟨f1, f2, f3, f4⟩ := HF.out T (W0 ++ [1]) HR.out
    have f3 : ∀ t ∈ T, t.size ≤ 256 := fun t ht => (f3 t ht).resolve_left (by simp)
    have f4 : ∀ x ∈ W0 ++ [1], x ≤ 9223372036854775807 := fun x hx => (f4 x hx).resolve_left (by simp)
    have hnl := HNL.out
    have h1 : 1 ≤ T.length := by
      rw [f1, hnl]
      obtain rfl := (by omega : n = 1)
      all_goals decide
    have hw9 : W0.length ≤ 16 := by
      have hc := Nat.le_trans (List.count_le_length (a := (110 : UInt8)) (l := List.take L.length [115])) (show _ ≤ 16 by rw [List.length_take]; exact Nat.le_trans (Nat.min_le_right _ _) (by decide))
      rw [List.length_append] at f2
      simp at f2
      omega
    have HE : Hid (resV 31 (convR [115] L [] []) = methV 31 T (W0 ++ [1])) := by unfold Hid; rw [HR.out]; rfl
    have l4 := valloc w3 (.cells #[.int .u8 0, .int .i64 0, .string ⟨#[]⟩] 25)
    have HX4 := Lib.hid (HX3.out.later l4)
    have HB4 := Lib.hid (vnext HB3.out l4)
    have HT4 := Lib.hid (hTT.later l4)
    have HW4 := Lib.hid (hW.later l4)
    have HV := Lib.hid (fun W (hX : Below w.heap.size w W) (hTT : IsT W ta T.length T) (hW : IsW W wa0 W0.length W0) => rv_31 ta wa0 T.length tc W0.length wc T W0 W hTT hW (g0 T) (g0_at h1) (Nat.le_trans (f3 _ (mem_at (g0_at h1))) (by decide)))
    clear l4 HX3 HB3 hOT hON hTT hW f1 f2 HF
    go_upto_region 8 with fail
    generalize w3.alloc (.cells #[.int .u8 0, .int .i64 0, .string ⟨#[]⟩] 25) = w4 at *
    obtain ⟨vv, hvv⟩ : ∃ vv, methV 31 T (W0 ++ [1]) = vv := ⟨_, rfl⟩
    have HV2 : Hid (∀ W, Below w.heap.size w W → IsT W ta T.length T → IsW W wa0 W0.length W0 → Calls Tryz.prog 55 #[.int .u8 31, .slice ta T.length tc, .slice wa0 W0.length wc] W fun e w' => e = .returned (vOf vv) ∧ Below W.heap.size W w') := by rw [← hvv]; exact HV.out
    rw [hvv] at HE
    obtain ⟨vk, vn, vs⟩ := vv
    unfold vOf at HV2
    dsimp only at HV2
    clear HV hvv f3 f4
    go_wp2_with fail
    refine (HV2.out _ HB4.out HT4.out  HW4.out).mono ?_
    rintro e w6 ⟨rfl, hB6⟩
    have hX3 := HX4.out.later hB6
    have HB3 := Lib.hid (vnext HB4.out hB6)
    clear hB6
    obtain ⟨x0, x1, x2, z0, z1, z2⟩ := hX3.cells
    have hXl := hX3.lt
    obtain ⟨hq, hg⟩ := b3_set hX3 vk vn vs
    have hb5 := HB3.out.grown hg HB3.out.size (fun q hq => by injection hq with hq; omega)
    clear hg
    go_wp2_with fail
    generalize ((w6.setCell ⟨w.heap.size, 0, none⟩ (.int .u8 (vk : Int))).setCell ⟨w.heap.size, 1, none⟩ (.int .i64 vn)).setCell ⟨w.heap.size, 2, none⟩ (.string vs) = w5 at *
    obtain ⟨v0, v1, v2, _, _, _⟩ := hq.cells
    refine bodyPost_ret (v := .tuple #[.agg #[.int .u8 (vk : Int), .int .i64 vn, .string vs], .int .i64 0]) (by simp [results, Tryz.results20, go_sem, v0, v1, v2]) rfl ⟨by rw [HE.out]; rfl, hb5⟩
set_option maxRecDepth 100000 in
set_option maxHeartbeats 6400000 in
theorem rcall_32 (a : Option Addr) (n cap : Nat) (L : List V3) (w : World) (hL : IsV w a n L) (hl : 1 ≤ n) (hn : n ≤ 2) (hv : ∀ v ∈ L, v.2.2.size ≤ 2000 ∧ InI v.2.1) (hb : okL L = true) (hT : Tb w) :
    Calls Tryz.prog 20 #[.int .u8 32, .slice a n cap] w fun e w' => e = .returned (.tuple #[vOf (resV 32 (convR [115, 110] L [] [])), .int .i64 0]) ∧ Below w.heap.size w w' := by
  have HX : Hid (B3 (w.alloc (.cells #[.int .u8 0, .int .i64 0, .string ⟨#[]⟩] 25)) w.heap.size 0 0 ⟨#[]⟩) := B3.start w 0 0 ⟨#[]⟩
  have HB := Lib.hid (valloc w (.cells #[.int .u8 0, .int .i64 0, .string ⟨#[]⟩] 25))
  have HCN := Lib.hid (fun W => rcount_any 32 n (by omega) W rar_32)
  rw [decide_eq_true (show (arV 32).1 ≤ n ∧ n ≤ (arV 32).2 from ⟨hl, hn⟩)] at HCN
  have HVA := Lib.hid (fun W hW => rvalid_any a n cap L (by omega) W hW (fun v h => ⟨Nat.le_trans (hv v h).1 (by unfold maxLen; decide), by have := (hv v h).2; unfold InI at this; unfold leastI; omega⟩))
  have HL := Lib.hid hL
  rw [hb] at HVA
  have HT := Lib.hid hT
  have HCO := Lib.hid (fun W hW hT => rconvert_any 32 ⟨#[115, 110]⟩ a n cap L W hW hn (by decide) (by decide) wh_32 hv hT)
  have HF := Lib.hid (fun T W' => convR_facts [115, 110] L [] [] T W' (fun v h => (hv v h).2) (by decide))
  have HNL := Lib.hid hL.1
  rw [show (⟨#[115, 110]⟩ : ByteArray).data.toList = [115, 110] from rfl] at HCO
  obtain ⟨R, hR⟩ : ∃ R, convR [115, 110] L [] [] = R := ⟨_, rfl⟩
  rw [hR] at HCO
  have HR := Lib.hid hR
  clear hL hv hT hR
  go_enter Tryz.func20, Tryz.ntmps20
  go_wp2_with fail
  generalize w.alloc (.cells #[.int .u8 0, .int .i64 0, .string ⟨#[]⟩] 25) = wa at *
  refine (HCN.out _).mono ?_
  rintro e w1 ⟨rfl, hB1⟩
  have HX1 := Lib.hid (HX.out.later hB1)
  have HB1 := Lib.hid (vnext HB.out hB1)
  clear hB1 HX HB
  go_wp2_with fail
  refine (HVA.out _ (IsOf.later HL.out HB1.out)).mono ?_
  rintro e w2 ⟨rfl, hB2⟩
  have HX2 := Lib.hid (HX1.out.later hB2)
  have HB2 := Lib.hid (vnext HB1.out hB2)
  clear hB2 HX1 HB1
  go_wp2_with fail
  refine (HCO.out _ (IsOf.later HL.out HB2.out) (HT.out.later HB2.out)).mono ?_
  rintro e w3 ⟨hRV, hB3⟩
  have HX3 := Lib.hid (HX2.out.later hB3)
  have HB3 := Lib.hid (vnext HB2.out hB3)
  clear hB3 HX2 HB2
  clear HCN HVA HCO HL
  cases R with
  | inr x =>
    obtain ⟨xk, xn, xs⟩ := x
    obtain rfl : e = .returned (.tuple #[.slice none 0 0, .slice none 0 0, .agg #[.int .u8 (xk : Int), .int .i64 xn, .string xs], .bool false]) := hRV
    have HE : Hid (resV 32 (convR [115, 110] L [] []) = (xk, xn, xs)) := by unfold Hid; rw [HR.out]; rfl
    have HY := Lib.hid (B3.start w3 xk xn xs)
    have l4 := valloc w3 (.cells #[.int .u8 (xk : Int), .int .i64 xn, .string xs] 25)
    have HX4 := Lib.hid (HX3.out.later l4)
    have HB4 := Lib.hid (vnext HB3.out l4)
    clear l4 HX3 HB3
    go_upto_region 8 with fail
    generalize w3.alloc (.cells #[.int .u8 (xk : Int), .int .i64 xn, .string xs] 25) = w4 at *
    obtain ⟨y0, y1, y2, _, _, _⟩ := HY.out.cells
    have hyl := HY.out.lt
    have hX3 := HX4.out
    have HB3 := HB4
    obtain ⟨x0, x1, x2, z0, z1, z2⟩ := hX3.cells
    have hXl := hX3.lt
    obtain ⟨hq, hg⟩ := b3_set hX3 xk xn xs
    have hb5 := HB3.out.grown hg HB3.out.size (fun q hq => by injection hq with hq; omega)
    clear hg
    go_wp2_with fail
    generalize ((w4.setCell ⟨w.heap.size, 0, none⟩ (.int .u8 (xk : Int))).setCell ⟨w.heap.size, 1, none⟩ (.int .i64 xn)).setCell ⟨w.heap.size, 2, none⟩ (.string xs) = w5 at *
    obtain ⟨v0, v1, v2, _, _, _⟩ := hq.cells
    refine bodyPost_ret (v := .tuple #[.agg #[.int .u8 (xk : Int), .int .i64 xn, .string xs], .int .i64 0]) (by simp [results, Tryz.results20, go_sem, v0, v1, v2]) rfl ⟨by rw [HE.out]; rfl, hb5⟩
  | inl p =>
    obtain ⟨T, W'⟩ := p
    obtain ⟨u, v, hev, hOT, hON⟩ := hRV
    obtain rfl : e = .returned (.tuple #[u, v, .agg #[.int .u8 0, .int .i64 0, .string ⟨#[]⟩], .bool true]) := hev
    dsimp only at hOT hON
    obtain ⟨W0, rfl⟩ := convR_last _ _ _ _ _ _ HR.out
    rw [List.dropLast_concat] at hON
    obtain ⟨ta, tc, rfl, hTT⟩ := hOT.isOf cellsT_len
    obtain ⟨wa0, wc, rfl, hW⟩ := hON.isOf cellsW_len
    obtain ⟨f1, f2, f3, f4⟩ := HF.out T (W0 ++ [1]) HR.out
    have f3 : ∀ t ∈ T, t.size ≤ 256 := fun t ht => (f3 t ht).resolve_left (by simp)
    have f4 : ∀ x ∈ W0 ++ [1], x ≤ 9223372036854775807 := fun x hx => (f4 x hx).resolve_left (by simp)
    have hnl := HNL.out
    have h1 : 1 ≤ T.length := by
      rw [f1, hnl]
      obtain rfl | rfl := (by omega : n = 1 ∨ n = 2)
      all_goals decide
    have hw9 : W0.length ≤ 16 := by
      have hc := Nat.le_trans (List.count_le_length (a := (110 : UInt8)) (l := List.take L.length [115, 110])) (show _ ≤ 16 by rw [List.length_take]; exact Nat.le_trans (Nat.min_le_right _ _) (by decide))
      rw [List.length_append] at f2
      simp at f2
      omega
    have HE : Hid (resV 32 (convR [115, 110] L [] []) = methV 32 T (W0 ++ [1])) := by unfold Hid; rw [HR.out]; rfl
    have l4 := valloc w3 (.cells #[.int .u8 0, .int .i64 0, .string ⟨#[]⟩] 25)
    have HX4 := Lib.hid (HX3.out.later l4)
    have HB4 := Lib.hid (vnext HB3.out l4)
    have HT4 := Lib.hid (hTT.later l4)
    have HW4 := Lib.hid (hW.later l4)
    have HV := Lib.hid (fun W (hX : Below w.heap.size w W) (hW : IsW W wa0 W0.length W0) => rpiece_32 (g0 T) wa0 W0.length wc W0 W hW (by omega) (n0 (W0 ++ [1])) (last_or W0) (Nat.le_trans (f3 _ (mem_at (g0_at h1))) (by decide)))
    clear l4 HX3 HB3 hOT hON hTT hW f1 f2 HF
    obtain ⟨nt0, bt0, ot0, ea0, lt0, ct0⟩ := isT_at HT4.out (g0_at h1)
    rw [Nat.add_zero] at ct0
    have EA0 := Lib.hid ea0
    clear ea0
    go_upto_region 8 with fail
    generalize w3.alloc (.cells #[.int .u8 0, .int .i64 0, .string ⟨#[]⟩] 25) = w4 at *
    have ea0 := EA0.out
    clear EA0
    subst ea0
    obtain ⟨vv, hvv⟩ : ∃ vv, methV 32 T (W0 ++ [1]) = vv := ⟨_, rfl⟩
    have HV2 : Hid (∀ W, Below w.heap.size w W → IsW W wa0 W0.length W0 → Calls Tryz.prog 54 #[.int .u8 32, .string (g0 T), .slice wa0 W0.length wc] W fun e w' => e = .returned (vOf vv) ∧ Below W.heap.size W w') := by rw [← hvv]; exact HV.out
    rw [hvv] at HE
    obtain ⟨vk, vn, vs⟩ := vv
    unfold vOf at HV2
    dsimp only at HV2
    clear HV hvv f3 f4
    go_wp2_with fail
    refine (HV2.out _ HB4.out HW4.out).mono ?_
    rintro e w6 ⟨rfl, hB6⟩
    have hX3 := HX4.out.later hB6
    have HB3 := Lib.hid (vnext HB4.out hB6)
    clear hB6
    obtain ⟨x0, x1, x2, z0, z1, z2⟩ := hX3.cells
    have hXl := hX3.lt
    obtain ⟨hq, hg⟩ := b3_set hX3 vk vn vs
    have hb5 := HB3.out.grown hg HB3.out.size (fun q hq => by injection hq with hq; omega)
    clear hg
    go_wp2_with fail
    generalize ((w6.setCell ⟨w.heap.size, 0, none⟩ (.int .u8 (vk : Int))).setCell ⟨w.heap.size, 1, none⟩ (.int .i64 vn)).setCell ⟨w.heap.size, 2, none⟩ (.string vs) = w5 at *
    obtain ⟨v0, v1, v2, _, _, _⟩ := hq.cells
    refine bodyPost_ret (v := .tuple #[.agg #[.int .u8 (vk : Int), .int .i64 vn, .string vs], .int .i64 0]) (by simp [results, Tryz.results20, go_sem, v0, v1, v2]) rfl ⟨by rw [HE.out]; rfl, hb5⟩
set_option maxRecDepth 100000 in
set_option maxHeartbeats 6400000 in
theorem rcall_33 (a : Option Addr) (n cap : Nat) (L : List V3) (w : World) (hL : IsV w a n L) (hl : 1 ≤ n) (hn : n ≤ 2) (hv : ∀ v ∈ L, v.2.2.size ≤ 2000 ∧ InI v.2.1) (hb : okL L = true) (hT : Tb w) :
    Calls Tryz.prog 20 #[.int .u8 33, .slice a n cap] w fun e w' => e = .returned (.tuple #[vOf (resV 33 (convR [115, 110] L [] [])), .int .i64 0]) ∧ Below w.heap.size w w' := by
  have HX : Hid (B3 (w.alloc (.cells #[.int .u8 0, .int .i64 0, .string ⟨#[]⟩] 25)) w.heap.size 0 0 ⟨#[]⟩) := B3.start w 0 0 ⟨#[]⟩
  have HB := Lib.hid (valloc w (.cells #[.int .u8 0, .int .i64 0, .string ⟨#[]⟩] 25))
  have HCN := Lib.hid (fun W => rcount_any 33 n (by omega) W rar_33)
  rw [decide_eq_true (show (arV 33).1 ≤ n ∧ n ≤ (arV 33).2 from ⟨hl, hn⟩)] at HCN
  have HVA := Lib.hid (fun W hW => rvalid_any a n cap L (by omega) W hW (fun v h => ⟨Nat.le_trans (hv v h).1 (by unfold maxLen; decide), by have := (hv v h).2; unfold InI at this; unfold leastI; omega⟩))
  have HL := Lib.hid hL
  rw [hb] at HVA
  have HT := Lib.hid hT
  have HCO := Lib.hid (fun W hW hT => rconvert_any 33 ⟨#[115, 110]⟩ a n cap L W hW hn (by decide) (by decide) wh_33 hv hT)
  have HF := Lib.hid (fun T W' => convR_facts [115, 110] L [] [] T W' (fun v h => (hv v h).2) (by decide))
  have HNL := Lib.hid hL.1
  rw [show (⟨#[115, 110]⟩ : ByteArray).data.toList = [115, 110] from rfl] at HCO
  obtain ⟨R, hR⟩ : ∃ R, convR [115, 110] L [] [] = R := ⟨_, rfl⟩
  rw [hR] at HCO
  have HR := Lib.hid hR
  clear hL hv hT hR
  go_enter Tryz.func20, Tryz.ntmps20
  go_wp2_with fail
  generalize w.alloc (.cells #[.int .u8 0, .int .i64 0, .string ⟨#[]⟩] 25) = wa at *
  refine (HCN.out _).mono ?_
  rintro e w1 ⟨rfl, hB1⟩
  have HX1 := Lib.hid (HX.out.later hB1)
  have HB1 := Lib.hid (vnext HB.out hB1)
  clear hB1 HX HB
  go_wp2_with fail
  refine (HVA.out _ (IsOf.later HL.out HB1.out)).mono ?_
  rintro e w2 ⟨rfl, hB2⟩
  have HX2 := Lib.hid (HX1.out.later hB2)
  have HB2 := Lib.hid (vnext HB1.out hB2)
  clear hB2 HX1 HB1
  go_wp2_with fail
  refine (HCO.out _ (IsOf.later HL.out HB2.out) (HT.out.later HB2.out)).mono ?_
  rintro e w3 ⟨hRV, hB3⟩
  have HX3 := Lib.hid (HX2.out.later hB3)
  have HB3 := Lib.hid (vnext HB2.out hB3)
  clear hB3 HX2 HB2
  clear HCN HVA HCO HL
  cases R with
  | inr x =>
    obtain ⟨xk, xn, xs⟩ := x
    obtain rfl : e = .returned (.tuple #[.slice none 0 0, .slice none 0 0, .agg #[.int .u8 (xk : Int), .int .i64 xn, .string xs], .bool false]) := hRV
    have HE : Hid (resV 33 (convR [115, 110] L [] []) = (xk, xn, xs)) := by unfold Hid; rw [HR.out]; rfl
    have HY := Lib.hid (B3.start w3 xk xn xs)
    have l4 := valloc w3 (.cells #[.int .u8 (xk : Int), .int .i64 xn, .string xs] 25)
    have HX4 := Lib.hid (HX3.out.later l4)
    have HB4 := Lib.hid (vnext HB3.out l4)
    clear l4 HX3 HB3
    go_upto_region 8 with fail
    generalize w3.alloc (.cells #[.int .u8 (xk : Int), .int .i64 xn, .string xs] 25) = w4 at *
    obtain ⟨y0, y1, y2, _, _, _⟩ := HY.out.cells
    have hyl := HY.out.lt
    have hX3 := HX4.out
    have HB3 := HB4
    obtain ⟨x0, x1, x2, z0, z1, z2⟩ := hX3.cells
    have hXl := hX3.lt
    obtain ⟨hq, hg⟩ := b3_set hX3 xk xn xs
    have hb5 := HB3.out.grown hg HB3.out.size (fun q hq => by injection hq with hq; omega)
    clear hg
    go_wp2_with fail
    generalize ((w4.setCell ⟨w.heap.size, 0, none⟩ (.int .u8 (xk : Int))).setCell ⟨w.heap.size, 1, none⟩ (.int .i64 xn)).setCell ⟨w.heap.size, 2, none⟩ (.string xs) = w5 at *
    obtain ⟨v0, v1, v2, _, _, _⟩ := hq.cells
    refine bodyPost_ret (v := .tuple #[.agg #[.int .u8 (xk : Int), .int .i64 xn, .string xs], .int .i64 0]) (by simp [results, Tryz.results20, go_sem, v0, v1, v2]) rfl ⟨by rw [HE.out]; rfl, hb5⟩
  | inl p =>
    obtain ⟨T, W'⟩ := p
    obtain ⟨u, v, hev, hOT, hON⟩ := hRV
    obtain rfl : e = .returned (.tuple #[u, v, .agg #[.int .u8 0, .int .i64 0, .string ⟨#[]⟩], .bool true]) := hev
    dsimp only at hOT hON
    obtain ⟨W0, rfl⟩ := convR_last _ _ _ _ _ _ HR.out
    rw [List.dropLast_concat] at hON
    obtain ⟨ta, tc, rfl, hTT⟩ := hOT.isOf cellsT_len
    obtain ⟨wa0, wc, rfl, hW⟩ := hON.isOf cellsW_len
    obtain ⟨f1, f2, f3, f4⟩ := HF.out T (W0 ++ [1]) HR.out
    have f3 : ∀ t ∈ T, t.size ≤ 256 := fun t ht => (f3 t ht).resolve_left (by simp)
    have f4 : ∀ x ∈ W0 ++ [1], x ≤ 9223372036854775807 := fun x hx => (f4 x hx).resolve_left (by simp)
    have hnl := HNL.out
    have h1 : 1 ≤ T.length := by
      rw [f1, hnl]
      obtain rfl | rfl := (by omega : n = 1 ∨ n = 2)
      all_goals decide
    have hw9 : W0.length ≤ 16 := by
      have hc := Nat.le_trans (List.count_le_length (a := (110 : UInt8)) (l := List.take L.length [115, 110])) (show _ ≤ 16 by rw [List.length_take]; exact Nat.le_trans (Nat.min_le_right _ _) (by decide))
      rw [List.length_append] at f2
      simp at f2
      omega
    have HE : Hid (resV 33 (convR [115, 110] L [] []) = methV 33 T (W0 ++ [1])) := by unfold Hid; rw [HR.out]; rfl
    have l4 := valloc w3 (.cells #[.int .u8 0, .int .i64 0, .string ⟨#[]⟩] 25)
    have HX4 := Lib.hid (HX3.out.later l4)
    have HB4 := Lib.hid (vnext HB3.out l4)
    have HT4 := Lib.hid (hTT.later l4)
    have HW4 := Lib.hid (hW.later l4)
    have HV := Lib.hid (fun W (hX : Below w.heap.size w W) (hW : IsW W wa0 W0.length W0) => rpiece_33 (g0 T) wa0 W0.length wc W0 W hW (by omega) (n0 (W0 ++ [1])) (last_or W0) (Nat.le_trans (f3 _ (mem_at (g0_at h1))) (by decide)))
    clear l4 HX3 HB3 hOT hON hTT hW f1 f2 HF
    obtain ⟨nt0, bt0, ot0, ea0, lt0, ct0⟩ := isT_at HT4.out (g0_at h1)
    rw [Nat.add_zero] at ct0
    have EA0 := Lib.hid ea0
    clear ea0
    go_upto_region 8 with fail
    generalize w3.alloc (.cells #[.int .u8 0, .int .i64 0, .string ⟨#[]⟩] 25) = w4 at *
    have ea0 := EA0.out
    clear EA0
    subst ea0
    obtain ⟨vv, hvv⟩ : ∃ vv, methV 33 T (W0 ++ [1]) = vv := ⟨_, rfl⟩
    have HV2 : Hid (∀ W, Below w.heap.size w W → IsW W wa0 W0.length W0 → Calls Tryz.prog 54 #[.int .u8 33, .string (g0 T), .slice wa0 W0.length wc] W fun e w' => e = .returned (vOf vv) ∧ Below W.heap.size W w') := by rw [← hvv]; exact HV.out
    rw [hvv] at HE
    obtain ⟨vk, vn, vs⟩ := vv
    unfold vOf at HV2
    dsimp only at HV2
    clear HV hvv f3 f4
    go_wp2_with fail
    refine (HV2.out _ HB4.out HW4.out).mono ?_
    rintro e w6 ⟨rfl, hB6⟩
    have hX3 := HX4.out.later hB6
    have HB3 := Lib.hid (vnext HB4.out hB6)
    clear hB6
    obtain ⟨x0, x1, x2, z0, z1, z2⟩ := hX3.cells
    have hXl := hX3.lt
    obtain ⟨hq, hg⟩ := b3_set hX3 vk vn vs
    have hb5 := HB3.out.grown hg HB3.out.size (fun q hq => by injection hq with hq; omega)
    clear hg
    go_wp2_with fail
    generalize ((w6.setCell ⟨w.heap.size, 0, none⟩ (.int .u8 (vk : Int))).setCell ⟨w.heap.size, 1, none⟩ (.int .i64 vn)).setCell ⟨w.heap.size, 2, none⟩ (.string vs) = w5 at *
    obtain ⟨v0, v1, v2, _, _, _⟩ := hq.cells
    refine bodyPost_ret (v := .tuple #[.agg #[.int .u8 (vk : Int), .int .i64 vn, .string vs], .int .i64 0]) (by simp [results, Tryz.results20, go_sem, v0, v1, v2]) rfl ⟨by rw [HE.out]; rfl, hb5⟩
set_option maxRecDepth 100000 in
set_option maxHeartbeats 6400000 in
theorem rcall_34 (a : Option Addr) (n cap : Nat) (L : List V3) (w : World) (hL : IsV w a n L) (hl : 3 ≤ n) (hn : n ≤ 3) (hv : ∀ v ∈ L, v.2.2.size ≤ 2000 ∧ InI v.2.1) (hb : okL L = true) (hT : Tb w) :
    Calls Tryz.prog 20 #[.int .u8 34, .slice a n cap] w fun e w' => e = .returned (.tuple #[vOf (resV 34 (convR [115, 110, 110] L [] [])), .int .i64 0]) ∧ Below w.heap.size w w' := by
  have HX : Hid (B3 (w.alloc (.cells #[.int .u8 0, .int .i64 0, .string ⟨#[]⟩] 25)) w.heap.size 0 0 ⟨#[]⟩) := B3.start w 0 0 ⟨#[]⟩
  have HB := Lib.hid (valloc w (.cells #[.int .u8 0, .int .i64 0, .string ⟨#[]⟩] 25))
  have HCN := Lib.hid (fun W => rcount_any 34 n (by omega) W rar_34)
  rw [decide_eq_true (show (arV 34).1 ≤ n ∧ n ≤ (arV 34).2 from ⟨hl, hn⟩)] at HCN
  have HVA := Lib.hid (fun W hW => rvalid_any a n cap L (by omega) W hW (fun v h => ⟨Nat.le_trans (hv v h).1 (by unfold maxLen; decide), by have := (hv v h).2; unfold InI at this; unfold leastI; omega⟩))
  have HL := Lib.hid hL
  rw [hb] at HVA
  have HT := Lib.hid hT
  have HCO := Lib.hid (fun W hW hT => rconvert_any 34 ⟨#[115, 110, 110]⟩ a n cap L W hW hn (by decide) (by decide) wh_34 hv hT)
  have HF := Lib.hid (fun T W' => convR_facts [115, 110, 110] L [] [] T W' (fun v h => (hv v h).2) (by decide))
  have HNL := Lib.hid hL.1
  rw [show (⟨#[115, 110, 110]⟩ : ByteArray).data.toList = [115, 110, 110] from rfl] at HCO
  obtain ⟨R, hR⟩ : ∃ R, convR [115, 110, 110] L [] [] = R := ⟨_, rfl⟩
  rw [hR] at HCO
  have HR := Lib.hid hR
  clear hL hv hT hR
  go_enter Tryz.func20, Tryz.ntmps20
  go_wp2_with fail
  generalize w.alloc (.cells #[.int .u8 0, .int .i64 0, .string ⟨#[]⟩] 25) = wa at *
  refine (HCN.out _).mono ?_
  rintro e w1 ⟨rfl, hB1⟩
  have HX1 := Lib.hid (HX.out.later hB1)
  have HB1 := Lib.hid (vnext HB.out hB1)
  clear hB1 HX HB
  go_wp2_with fail
  refine (HVA.out _ (IsOf.later HL.out HB1.out)).mono ?_
  rintro e w2 ⟨rfl, hB2⟩
  have HX2 := Lib.hid (HX1.out.later hB2)
  have HB2 := Lib.hid (vnext HB1.out hB2)
  clear hB2 HX1 HB1
  go_wp2_with fail
  refine (HCO.out _ (IsOf.later HL.out HB2.out) (HT.out.later HB2.out)).mono ?_
  rintro e w3 ⟨hRV, hB3⟩
  have HX3 := Lib.hid (HX2.out.later hB3)
  have HB3 := Lib.hid (vnext HB2.out hB3)
  clear hB3 HX2 HB2
  clear HCN HVA HCO HL
  cases R with
  | inr x =>
    obtain ⟨xk, xn, xs⟩ := x
    obtain rfl : e = .returned (.tuple #[.slice none 0 0, .slice none 0 0, .agg #[.int .u8 (xk : Int), .int .i64 xn, .string xs], .bool false]) := hRV
    have HE : Hid (resV 34 (convR [115, 110, 110] L [] []) = (xk, xn, xs)) := by unfold Hid; rw [HR.out]; rfl
    have HY := Lib.hid (B3.start w3 xk xn xs)
    have l4 := valloc w3 (.cells #[.int .u8 (xk : Int), .int .i64 xn, .string xs] 25)
    have HX4 := Lib.hid (HX3.out.later l4)
    have HB4 := Lib.hid (vnext HB3.out l4)
    clear l4 HX3 HB3
    go_upto_region 8 with fail
    generalize w3.alloc (.cells #[.int .u8 (xk : Int), .int .i64 xn, .string xs] 25) = w4 at *
    obtain ⟨y0, y1, y2, _, _, _⟩ := HY.out.cells
    have hyl := HY.out.lt
    have hX3 := HX4.out
    have HB3 := HB4
    obtain ⟨x0, x1, x2, z0, z1, z2⟩ := hX3.cells
    have hXl := hX3.lt
    obtain ⟨hq, hg⟩ := b3_set hX3 xk xn xs
    have hb5 := HB3.out.grown hg HB3.out.size (fun q hq => by injection hq with hq; omega)
    clear hg
    go_wp2_with fail
    generalize ((w4.setCell ⟨w.heap.size, 0, none⟩ (.int .u8 (xk : Int))).setCell ⟨w.heap.size, 1, none⟩ (.int .i64 xn)).setCell ⟨w.heap.size, 2, none⟩ (.string xs) = w5 at *
    obtain ⟨v0, v1, v2, _, _, _⟩ := hq.cells
    refine bodyPost_ret (v := .tuple #[.agg #[.int .u8 (xk : Int), .int .i64 xn, .string xs], .int .i64 0]) (by simp [results, Tryz.results20, go_sem, v0, v1, v2]) rfl ⟨by rw [HE.out]; rfl, hb5⟩
  | inl p =>
    obtain ⟨T, W'⟩ := p
    obtain ⟨u, v, hev, hOT, hON⟩ := hRV
    obtain rfl : e = .returned (.tuple #[u, v, .agg #[.int .u8 0, .int .i64 0, .string ⟨#[]⟩], .bool true]) := hev
    dsimp only at hOT hON
    obtain ⟨W0, rfl⟩ := convR_last _ _ _ _ _ _ HR.out
    rw [List.dropLast_concat] at hON
    obtain ⟨ta, tc, rfl, hTT⟩ := hOT.isOf cellsT_len
    obtain ⟨wa0, wc, rfl, hW⟩ := hON.isOf cellsW_len
    obtain ⟨f1, f2, f3, f4⟩ := HF.out T (W0 ++ [1]) HR.out
    have f3 : ∀ t ∈ T, t.size ≤ 256 := fun t ht => (f3 t ht).resolve_left (by simp)
    have f4 : ∀ x ∈ W0 ++ [1], x ≤ 9223372036854775807 := fun x hx => (f4 x hx).resolve_left (by simp)
    have hnl := HNL.out
    have h1 : 1 ≤ T.length := by
      rw [f1, hnl]
      obtain rfl := (by omega : n = 3)
      all_goals decide
    have hw9 : W0.length ≤ 16 := by
      have hc := Nat.le_trans (List.count_le_length (a := (110 : UInt8)) (l := List.take L.length [115, 110, 110])) (show _ ≤ 16 by rw [List.length_take]; exact Nat.le_trans (Nat.min_le_right _ _) (by decide))
      rw [List.length_append] at f2
      simp at f2
      omega
    have h2 : 2 ≤ W0.length := by
      have : (W0 ++ [1]).length = 3 := by
        rw [f2, hnl]
        obtain rfl := (by omega : n = 3)
        all_goals decide
      rw [List.length_append] at this
      simp at this
      omega
    have HE : Hid (resV 34 (convR [115, 110, 110] L [] []) = methV 34 T (W0 ++ [1])) := by unfold Hid; rw [HR.out]; rfl
    have l4 := valloc w3 (.cells #[.int .u8 0, .int .i64 0, .string ⟨#[]⟩] 25)
    have HX4 := Lib.hid (HX3.out.later l4)
    have HB4 := Lib.hid (vnext HB3.out l4)
    have HT4 := Lib.hid (hTT.later l4)
    have HW4 := Lib.hid (hW.later l4)
    have HV := Lib.hid (fun W (hX : Below w.heap.size w W) (hW : IsW W wa0 W0.length W0) => rpiece_34 (g0 T) wa0 W0.length wc W0 W hW (by omega) (n0 (W0 ++ [1])) (n1 (W0 ++ [1])) ⟨last_at (Nat.le_trans (by decide) h2), last_at1 h2⟩ (f4 _ (by rw [List.mem_append]; exact .inl (mem_at (last_at (Nat.le_trans (by decide) h2))))) (Nat.le_trans (f3 _ (mem_at (g0_at h1))) (by decide)))
    clear l4 HX3 HB3 hOT hON hTT hW f1 f2 HF
    obtain ⟨nt0, bt0, ot0, ea0, lt0, ct0⟩ := isT_at HT4.out (g0_at h1)
    rw [Nat.add_zero] at ct0
    have EA0 := Lib.hid ea0
    clear ea0
    go_upto_region 8 with fail
    generalize w3.alloc (.cells #[.int .u8 0, .int .i64 0, .string ⟨#[]⟩] 25) = w4 at *
    have ea0 := EA0.out
    clear EA0
    subst ea0
    obtain ⟨vv, hvv⟩ : ∃ vv, methV 34 T (W0 ++ [1]) = vv := ⟨_, rfl⟩
    have HV2 : Hid (∀ W, Below w.heap.size w W → IsW W wa0 W0.length W0 → Calls Tryz.prog 54 #[.int .u8 34, .string (g0 T), .slice wa0 W0.length wc] W fun e w' => e = .returned (vOf vv) ∧ Below W.heap.size W w') := by rw [← hvv]; exact HV.out
    rw [hvv] at HE
    obtain ⟨vk, vn, vs⟩ := vv
    unfold vOf at HV2
    dsimp only at HV2
    clear HV hvv f3 f4
    go_wp2_with fail
    refine (HV2.out _ HB4.out HW4.out).mono ?_
    rintro e w6 ⟨rfl, hB6⟩
    have hX3 := HX4.out.later hB6
    have HB3 := Lib.hid (vnext HB4.out hB6)
    clear hB6
    obtain ⟨x0, x1, x2, z0, z1, z2⟩ := hX3.cells
    have hXl := hX3.lt
    obtain ⟨hq, hg⟩ := b3_set hX3 vk vn vs
    have hb5 := HB3.out.grown hg HB3.out.size (fun q hq => by injection hq with hq; omega)
    clear hg
    go_wp2_with fail
    generalize ((w6.setCell ⟨w.heap.size, 0, none⟩ (.int .u8 (vk : Int))).setCell ⟨w.heap.size, 1, none⟩ (.int .i64 vn)).setCell ⟨w.heap.size, 2, none⟩ (.string vs) = w5 at *
    obtain ⟨v0, v1, v2, _, _, _⟩ := hq.cells
    refine bodyPost_ret (v := .tuple #[.agg #[.int .u8 (vk : Int), .int .i64 vn, .string vs], .int .i64 0]) (by simp [results, Tryz.results20, go_sem, v0, v1, v2]) rfl ⟨by rw [HE.out]; rfl, hb5⟩
set_option maxRecDepth 100000 in
set_option maxHeartbeats 6400000 in
theorem rcall_35 (a : Option Addr) (n cap : Nat) (L : List V3) (w : World) (hL : IsV w a n L) (hl : 1 ≤ n) (hn : n ≤ 1) (hv : ∀ v ∈ L, v.2.2.size ≤ 2000 ∧ InI v.2.1) (hb : okL L = true) (hT : Tb w) :
    Calls Tryz.prog 20 #[.int .u8 35, .slice a n cap] w fun e w' => e = .returned (.tuple #[vOf (resV 35 (convR [115] L [] [])), .int .i64 0]) ∧ Below w.heap.size w w' := by
  have HX : Hid (B3 (w.alloc (.cells #[.int .u8 0, .int .i64 0, .string ⟨#[]⟩] 25)) w.heap.size 0 0 ⟨#[]⟩) := B3.start w 0 0 ⟨#[]⟩
  have HB := Lib.hid (valloc w (.cells #[.int .u8 0, .int .i64 0, .string ⟨#[]⟩] 25))
  have HCN := Lib.hid (fun W => rcount_any 35 n (by omega) W rar_35)
  rw [decide_eq_true (show (arV 35).1 ≤ n ∧ n ≤ (arV 35).2 from ⟨hl, hn⟩)] at HCN
  have HVA := Lib.hid (fun W hW => rvalid_any a n cap L (by omega) W hW (fun v h => ⟨Nat.le_trans (hv v h).1 (by unfold maxLen; decide), by have := (hv v h).2; unfold InI at this; unfold leastI; omega⟩))
  have HL := Lib.hid hL
  rw [hb] at HVA
  have HT := Lib.hid hT
  have HCO := Lib.hid (fun W hW hT => rconvert_any 35 ⟨#[115]⟩ a n cap L W hW hn (by decide) (by decide) wh_35 hv hT)
  have HF := Lib.hid (fun T W' => convR_facts [115] L [] [] T W' (fun v h => (hv v h).2) (by decide))
  have HNL := Lib.hid hL.1
  rw [show (⟨#[115]⟩ : ByteArray).data.toList = [115] from rfl] at HCO
  obtain ⟨R, hR⟩ : ∃ R, convR [115] L [] [] = R := ⟨_, rfl⟩
  rw [hR] at HCO
  have HR := Lib.hid hR
  clear hL hv hT hR
  go_enter Tryz.func20, Tryz.ntmps20
  go_wp2_with fail
  generalize w.alloc (.cells #[.int .u8 0, .int .i64 0, .string ⟨#[]⟩] 25) = wa at *
  refine (HCN.out _).mono ?_
  rintro e w1 ⟨rfl, hB1⟩
  have HX1 := Lib.hid (HX.out.later hB1)
  have HB1 := Lib.hid (vnext HB.out hB1)
  clear hB1 HX HB
  go_wp2_with fail
  refine (HVA.out _ (IsOf.later HL.out HB1.out)).mono ?_
  rintro e w2 ⟨rfl, hB2⟩
  have HX2 := Lib.hid (HX1.out.later hB2)
  have HB2 := Lib.hid (vnext HB1.out hB2)
  clear hB2 HX1 HB1
  go_wp2_with fail
  refine (HCO.out _ (IsOf.later HL.out HB2.out) (HT.out.later HB2.out)).mono ?_
  rintro e w3 ⟨hRV, hB3⟩
  have HX3 := Lib.hid (HX2.out.later hB3)
  have HB3 := Lib.hid (vnext HB2.out hB3)
  clear hB3 HX2 HB2
  clear HCN HVA HCO HL
  cases R with
  | inr x =>
    obtain ⟨xk, xn, xs⟩ := x
    obtain rfl : e = .returned (.tuple #[.slice none 0 0, .slice none 0 0, .agg #[.int .u8 (xk : Int), .int .i64 xn, .string xs], .bool false]) := hRV
    have HE : Hid (resV 35 (convR [115] L [] []) = (xk, xn, xs)) := by unfold Hid; rw [HR.out]; rfl
    have HY := Lib.hid (B3.start w3 xk xn xs)
    have l4 := valloc w3 (.cells #[.int .u8 (xk : Int), .int .i64 xn, .string xs] 25)
    have HX4 := Lib.hid (HX3.out.later l4)
    have HB4 := Lib.hid (vnext HB3.out l4)
    clear l4 HX3 HB3
    go_upto_region 8 with fail
    generalize w3.alloc (.cells #[.int .u8 (xk : Int), .int .i64 xn, .string xs] 25) = w4 at *
    obtain ⟨y0, y1, y2, _, _, _⟩ := HY.out.cells
    have hyl := HY.out.lt
    have hX3 := HX4.out
    have HB3 := HB4
    obtain ⟨x0, x1, x2, z0, z1, z2⟩ := hX3.cells
    have hXl := hX3.lt
    obtain ⟨hq, hg⟩ := b3_set hX3 xk xn xs
    have hb5 := HB3.out.grown hg HB3.out.size (fun q hq => by injection hq with hq; omega)
    clear hg
    go_wp2_with fail
    generalize ((w4.setCell ⟨w.heap.size, 0, none⟩ (.int .u8 (xk : Int))).setCell ⟨w.heap.size, 1, none⟩ (.int .i64 xn)).setCell ⟨w.heap.size, 2, none⟩ (.string xs) = w5 at *
    obtain ⟨v0, v1, v2, _, _, _⟩ := hq.cells
    refine bodyPost_ret (v := .tuple #[.agg #[.int .u8 (xk : Int), .int .i64 xn, .string xs], .int .i64 0]) (by simp [results, Tryz.results20, go_sem, v0, v1, v2]) rfl ⟨by rw [HE.out]; rfl, hb5⟩
  | inl p =>
    obtain ⟨T, W'⟩ := p
    obtain ⟨u, v, hev, hOT, hON⟩ := hRV
    obtain rfl : e = .returned (.tuple #[u, v, .agg #[.int .u8 0, .int .i64 0, .string ⟨#[]⟩], .bool true]) := hev
    dsimp only at hOT hON
    obtain ⟨W0, rfl⟩ := convR_last _ _ _ _ _ _ HR.out
    rw [List.dropLast_concat] at hON
    obtain ⟨ta, tc, rfl, hTT⟩ := hOT.isOf cellsT_len
    obtain ⟨wa0, wc, rfl, hW⟩ := hON.isOf cellsW_len
    obtain ⟨f1, f2, f3, f4⟩ := HF.out T (W0 ++ [1]) HR.out
    have f3 : ∀ t ∈ T, t.size ≤ 256 := fun t ht => (f3 t ht).resolve_left (by simp)
    have f4 : ∀ x ∈ W0 ++ [1], x ≤ 9223372036854775807 := fun x hx => (f4 x hx).resolve_left (by simp)
    have hnl := HNL.out
    have h1 : 1 ≤ T.length := by
      rw [f1, hnl]
      obtain rfl := (by omega : n = 1)
      all_goals decide
    have hw9 : W0.length ≤ 16 := by
      have hc := Nat.le_trans (List.count_le_length (a := (110 : UInt8)) (l := List.take L.length [115])) (show _ ≤ 16 by rw [List.length_take]; exact Nat.le_trans (Nat.min_le_right _ _) (by decide))
      rw [List.length_append] at f2
      simp at f2
      omega
    have HE : Hid (resV 35 (convR [115] L [] []) = methV 35 T (W0 ++ [1])) := by unfold Hid; rw [HR.out]; rfl
    have l4 := valloc w3 (.cells #[.int .u8 0, .int .i64 0, .string ⟨#[]⟩] 25)
    have HX4 := Lib.hid (HX3.out.later l4)
    have HB4 := Lib.hid (vnext HB3.out l4)
    have HT4 := Lib.hid (hTT.later l4)
    have HW4 := Lib.hid (hW.later l4)
    have HV := Lib.hid (fun W (hX : Below w.heap.size w W) (hTT : IsT W ta T.length T) (hW : IsW W wa0 W0.length W0) => rv_35 ta wa0 T.length tc W0.length wc T W0 W hTT hW (g0 T) (g0_at h1) (Nat.le_trans (f3 _ (mem_at (g0_at h1))) (by decide)))
    clear l4 HX3 HB3 hOT hON hTT hW f1 f2 HF
    go_upto_region 8 with fail
    generalize w3.alloc (.cells #[.int .u8 0, .int .i64 0, .string ⟨#[]⟩] 25) = w4 at *
    obtain ⟨vv, hvv⟩ : ∃ vv, methV 35 T (W0 ++ [1]) = vv := ⟨_, rfl⟩
    have HV2 : Hid (∀ W, Below w.heap.size w W → IsT W ta T.length T → IsW W wa0 W0.length W0 → Calls Tryz.prog 55 #[.int .u8 35, .slice ta T.length tc, .slice wa0 W0.length wc] W fun e w' => e = .returned (vOf vv) ∧ Below W.heap.size W w') := by rw [← hvv]; exact HV.out
    rw [hvv] at HE
    obtain ⟨vk, vn, vs⟩ := vv
    unfold vOf at HV2
    dsimp only at HV2
    clear HV hvv f3 f4
    go_wp2_with fail
    refine (HV2.out _ HB4.out HT4.out  HW4.out).mono ?_
    rintro e w6 ⟨rfl, hB6⟩
    have hX3 := HX4.out.later hB6
    have HB3 := Lib.hid (vnext HB4.out hB6)
    clear hB6
    obtain ⟨x0, x1, x2, z0, z1, z2⟩ := hX3.cells
    have hXl := hX3.lt
    obtain ⟨hq, hg⟩ := b3_set hX3 vk vn vs
    have hb5 := HB3.out.grown hg HB3.out.size (fun q hq => by injection hq with hq; omega)
    clear hg
    go_wp2_with fail
    generalize ((w6.setCell ⟨w.heap.size, 0, none⟩ (.int .u8 (vk : Int))).setCell ⟨w.heap.size, 1, none⟩ (.int .i64 vn)).setCell ⟨w.heap.size, 2, none⟩ (.string vs) = w5 at *
    obtain ⟨v0, v1, v2, _, _, _⟩ := hq.cells
    refine bodyPost_ret (v := .tuple #[.agg #[.int .u8 (vk : Int), .int .i64 vn, .string vs], .int .i64 0]) (by simp [results, Tryz.results20, go_sem, v0, v1, v2]) rfl ⟨by rw [HE.out]; rfl, hb5⟩
set_option maxRecDepth 100000 in
set_option maxHeartbeats 6400000 in
theorem rcall_36 (a : Option Addr) (n cap : Nat) (L : List V3) (w : World) (hL : IsV w a n L) (hl : 1 ≤ n) (hn : n ≤ 1) (hv : ∀ v ∈ L, v.2.2.size ≤ 2000 ∧ InI v.2.1) (hb : okL L = true) (hT : Tb w) :
    Calls Tryz.prog 20 #[.int .u8 36, .slice a n cap] w fun e w' => e = .returned (.tuple #[vOf (resV 36 (convR [115] L [] [])), .int .i64 0]) ∧ Below w.heap.size w w' := by
  have HX : Hid (B3 (w.alloc (.cells #[.int .u8 0, .int .i64 0, .string ⟨#[]⟩] 25)) w.heap.size 0 0 ⟨#[]⟩) := B3.start w 0 0 ⟨#[]⟩
  have HB := Lib.hid (valloc w (.cells #[.int .u8 0, .int .i64 0, .string ⟨#[]⟩] 25))
  have HCN := Lib.hid (fun W => rcount_any 36 n (by omega) W rar_36)
  rw [decide_eq_true (show (arV 36).1 ≤ n ∧ n ≤ (arV 36).2 from ⟨hl, hn⟩)] at HCN
  have HVA := Lib.hid (fun W hW => rvalid_any a n cap L (by omega) W hW (fun v h => ⟨Nat.le_trans (hv v h).1 (by unfold maxLen; decide), by have := (hv v h).2; unfold InI at this; unfold leastI; omega⟩))
  have HL := Lib.hid hL
  rw [hb] at HVA
  have HT := Lib.hid hT
  have HCO := Lib.hid (fun W hW hT => rconvert_any 36 ⟨#[115]⟩ a n cap L W hW hn (by decide) (by decide) wh_36 hv hT)
  have HF := Lib.hid (fun T W' => convR_facts [115] L [] [] T W' (fun v h => (hv v h).2) (by decide))
  have HNL := Lib.hid hL.1
  rw [show (⟨#[115]⟩ : ByteArray).data.toList = [115] from rfl] at HCO
  obtain ⟨R, hR⟩ : ∃ R, convR [115] L [] [] = R := ⟨_, rfl⟩
  rw [hR] at HCO
  have HR := Lib.hid hR
  clear hL hv hT hR
  go_enter Tryz.func20, Tryz.ntmps20
  go_wp2_with fail
  generalize w.alloc (.cells #[.int .u8 0, .int .i64 0, .string ⟨#[]⟩] 25) = wa at *
  refine (HCN.out _).mono ?_
  rintro e w1 ⟨rfl, hB1⟩
  have HX1 := Lib.hid (HX.out.later hB1)
  have HB1 := Lib.hid (vnext HB.out hB1)
  clear hB1 HX HB
  go_wp2_with fail
  refine (HVA.out _ (IsOf.later HL.out HB1.out)).mono ?_
  rintro e w2 ⟨rfl, hB2⟩
  have HX2 := Lib.hid (HX1.out.later hB2)
  have HB2 := Lib.hid (vnext HB1.out hB2)
  clear hB2 HX1 HB1
  go_wp2_with fail
  refine (HCO.out _ (IsOf.later HL.out HB2.out) (HT.out.later HB2.out)).mono ?_
  rintro e w3 ⟨hRV, hB3⟩
  have HX3 := Lib.hid (HX2.out.later hB3)
  have HB3 := Lib.hid (vnext HB2.out hB3)
  clear hB3 HX2 HB2
  clear HCN HVA HCO HL
  cases R with
  | inr x =>
    obtain ⟨xk, xn, xs⟩ := x
    obtain rfl : e = .returned (.tuple #[.slice none 0 0, .slice none 0 0, .agg #[.int .u8 (xk : Int), .int .i64 xn, .string xs], .bool false]) := hRV
    have HE : Hid (resV 36 (convR [115] L [] []) = (xk, xn, xs)) := by unfold Hid; rw [HR.out]; rfl
    have HY := Lib.hid (B3.start w3 xk xn xs)
    have l4 := valloc w3 (.cells #[.int .u8 (xk : Int), .int .i64 xn, .string xs] 25)
    have HX4 := Lib.hid (HX3.out.later l4)
    have HB4 := Lib.hid (vnext HB3.out l4)
    clear l4 HX3 HB3
    go_upto_region 8 with fail
    generalize w3.alloc (.cells #[.int .u8 (xk : Int), .int .i64 xn, .string xs] 25) = w4 at *
    obtain ⟨y0, y1, y2, _, _, _⟩ := HY.out.cells
    have hyl := HY.out.lt
    have hX3 := HX4.out
    have HB3 := HB4
    obtain ⟨x0, x1, x2, z0, z1, z2⟩ := hX3.cells
    have hXl := hX3.lt
    obtain ⟨hq, hg⟩ := b3_set hX3 xk xn xs
    have hb5 := HB3.out.grown hg HB3.out.size (fun q hq => by injection hq with hq; omega)
    clear hg
    go_wp2_with fail
    generalize ((w4.setCell ⟨w.heap.size, 0, none⟩ (.int .u8 (xk : Int))).setCell ⟨w.heap.size, 1, none⟩ (.int .i64 xn)).setCell ⟨w.heap.size, 2, none⟩ (.string xs) = w5 at *
    obtain ⟨v0, v1, v2, _, _, _⟩ := hq.cells
    refine bodyPost_ret (v := .tuple #[.agg #[.int .u8 (xk : Int), .int .i64 xn, .string xs], .int .i64 0]) (by simp [results, Tryz.results20, go_sem, v0, v1, v2]) rfl ⟨by rw [HE.out]; rfl, hb5⟩
  | inl p =>
    obtain ⟨T, W'⟩ := p
    obtain ⟨u, v, hev, hOT, hON⟩ := hRV
    obtain rfl : e = .returned (.tuple #[u, v, .agg #[.int .u8 0, .int .i64 0, .string ⟨#[]⟩], .bool true]) := hev
    dsimp only at hOT hON
    obtain ⟨W0, rfl⟩ := convR_last _ _ _ _ _ _ HR.out
    rw [List.dropLast_concat] at hON
    obtain ⟨ta, tc, rfl, hTT⟩ := hOT.isOf cellsT_len
    obtain ⟨wa0, wc, rfl, hW⟩ := hON.isOf cellsW_len
    obtain ⟨f1, f2, f3, f4⟩ := HF.out T (W0 ++ [1]) HR.out
    have f3 : ∀ t ∈ T, t.size ≤ 256 := fun t ht => (f3 t ht).resolve_left (by simp)
    have f4 : ∀ x ∈ W0 ++ [1], x ≤ 9223372036854775807 := fun x hx => (f4 x hx).resolve_left (by simp)
    have hnl := HNL.out
    have h1 : 1 ≤ T.length := by
      rw [f1, hnl]
      obtain rfl := (by omega : n = 1)
      all_goals decide
    have hw9 : W0.length ≤ 16 := by
      have hc := Nat.le_trans (List.count_le_length (a := (110 : UInt8)) (l := List.take L.length [115])) (show _ ≤ 16 by rw [List.length_take]; exact Nat.le_trans (Nat.min_le_right _ _) (by decide))
      rw [List.length_append] at f2
      simp at f2
      omega
    have HE : Hid (resV 36 (convR [115] L [] []) = methV 36 T (W0 ++ [1])) := by unfold Hid; rw [HR.out]; rfl
    have l4 := valloc w3 (.cells #[.int .u8 0, .int .i64 0, .string ⟨#[]⟩] 25)
    have HX4 := Lib.hid (HX3.out.later l4)
    have HB4 := Lib.hid (vnext HB3.out l4)
    have HT4 := Lib.hid (hTT.later l4)
    have HW4 := Lib.hid (hW.later l4)
    have HV := Lib.hid (fun W (hX : Below w.heap.size w W) (hTT : IsT W ta T.length T) (hW : IsW W wa0 W0.length W0) => rv_36 ta wa0 T.length tc W0.length wc T W0 W hTT hW (g0 T) (g0_at h1) (Nat.le_trans (f3 _ (mem_at (g0_at h1))) (by decide)))
    clear l4 HX3 HB3 hOT hON hTT hW f1 f2 HF
    go_upto_region 8 with fail
    generalize w3.alloc (.cells #[.int .u8 0, .int .i64 0, .string ⟨#[]⟩] 25) = w4 at *
    obtain ⟨vv, hvv⟩ : ∃ vv, methV 36 T (W0 ++ [1]) = vv := ⟨_, rfl⟩
    have HV2 : Hid (∀ W, Below w.heap.size w W → IsT W ta T.length T → IsW W wa0 W0.length W0 → Calls Tryz.prog 55 #[.int .u8 36, .slice ta T.length tc, .slice wa0 W0.length wc] W fun e w' => e = .returned (vOf vv) ∧ Below W.heap.size W w') := by rw [← hvv]; exact HV.out
    rw [hvv] at HE
    obtain ⟨vk, vn, vs⟩ := vv
    unfold vOf at HV2
    dsimp only at HV2
    clear HV hvv f3 f4
    go_wp2_with fail
    refine (HV2.out _ HB4.out HT4.out  HW4.out).mono ?_
    rintro e w6 ⟨rfl, hB6⟩
    have hX3 := HX4.out.later hB6
    have HB3 := Lib.hid (vnext HB4.out hB6)
    clear hB6
    obtain ⟨x0, x1, x2, z0, z1, z2⟩ := hX3.cells
    have hXl := hX3.lt
    obtain ⟨hq, hg⟩ := b3_set hX3 vk vn vs
    have hb5 := HB3.out.grown hg HB3.out.size (fun q hq => by injection hq with hq; omega)
    clear hg
    go_wp2_with fail
    generalize ((w6.setCell ⟨w.heap.size, 0, none⟩ (.int .u8 (vk : Int))).setCell ⟨w.heap.size, 1, none⟩ (.int .i64 vn)).setCell ⟨w.heap.size, 2, none⟩ (.string vs) = w5 at *
    obtain ⟨v0, v1, v2, _, _, _⟩ := hq.cells
    refine bodyPost_ret (v := .tuple #[.agg #[.int .u8 (vk : Int), .int .i64 vn, .string vs], .int .i64 0]) (by simp [results, Tryz.results20, go_sem, v0, v1, v2]) rfl ⟨by rw [HE.out]; rfl, hb5⟩
set_option maxRecDepth 100000 in
set_option maxHeartbeats 6400000 in
theorem rcall_37 (a : Option Addr) (n cap : Nat) (L : List V3) (w : World) (hL : IsV w a n L) (hl : 1 ≤ n) (hn : n ≤ 1) (hv : ∀ v ∈ L, v.2.2.size ≤ 2000 ∧ InI v.2.1) (hb : okL L = true) (hT : Tb w) :
    Calls Tryz.prog 20 #[.int .u8 37, .slice a n cap] w fun e w' => e = .returned (.tuple #[vOf (resV 37 (convR [115] L [] [])), .int .i64 0]) ∧ Below w.heap.size w w' := by
  have HX : Hid (B3 (w.alloc (.cells #[.int .u8 0, .int .i64 0, .string ⟨#[]⟩] 25)) w.heap.size 0 0 ⟨#[]⟩) := B3.start w 0 0 ⟨#[]⟩
  have HB := Lib.hid (valloc w (.cells #[.int .u8 0, .int .i64 0, .string ⟨#[]⟩] 25))
  have HCN := Lib.hid (fun W => rcount_any 37 n (by omega) W rar_37)
  rw [decide_eq_true (show (arV 37).1 ≤ n ∧ n ≤ (arV 37).2 from ⟨hl, hn⟩)] at HCN
  have HVA := Lib.hid (fun W hW => rvalid_any a n cap L (by omega) W hW (fun v h => ⟨Nat.le_trans (hv v h).1 (by unfold maxLen; decide), by have := (hv v h).2; unfold InI at this; unfold leastI; omega⟩))
  have HL := Lib.hid hL
  rw [hb] at HVA
  have HT := Lib.hid hT
  have HCO := Lib.hid (fun W hW hT => rconvert_any 37 ⟨#[115]⟩ a n cap L W hW hn (by decide) (by decide) wh_37 hv hT)
  have HF := Lib.hid (fun T W' => convR_facts [115] L [] [] T W' (fun v h => (hv v h).2) (by decide))
  have HNL := Lib.hid hL.1
  rw [show (⟨#[115]⟩ : ByteArray).data.toList = [115] from rfl] at HCO
  obtain ⟨R, hR⟩ : ∃ R, convR [115] L [] [] = R := ⟨_, rfl⟩
  rw [hR] at HCO
  have HR := Lib.hid hR
  clear hL hv hT hR
  go_enter Tryz.func20, Tryz.ntmps20
  go_wp2_with fail
  generalize w.alloc (.cells #[.int .u8 0, .int .i64 0, .string ⟨#[]⟩] 25) = wa at *
  refine (HCN.out _).mono ?_
  rintro e w1 ⟨rfl, hB1⟩
  have HX1 := Lib.hid (HX.out.later hB1)
  have HB1 := Lib.hid (vnext HB.out hB1)
  clear hB1 HX HB
  go_wp2_with fail
  refine (HVA.out _ (IsOf.later HL.out HB1.out)).mono ?_
  rintro e w2 ⟨rfl, hB2⟩
  have HX2 := Lib.hid (HX1.out.later hB2)
  have HB2 := Lib.hid (vnext HB1.out hB2)
  clear hB2 HX1 HB1
  go_wp2_with fail
  refine (HCO.out _ (IsOf.later HL.out HB2.out) (HT.out.later HB2.out)).mono ?_
  rintro e w3 ⟨hRV, hB3⟩
  have HX3 := Lib.hid (HX2.out.later hB3)
  have HB3 := Lib.hid (vnext HB2.out hB3)
  clear hB3 HX2 HB2
  clear HCN HVA HCO HL
  cases R with
  | inr x =>
    obtain ⟨xk, xn, xs⟩ := x
    obtain rfl : e = .returned (.tuple #[.slice none 0 0, .slice none 0 0, .agg #[.int .u8 (xk : Int), .int .i64 xn, .string xs], .bool false]) := hRV
    have HE : Hid (resV 37 (convR [115] L [] []) = (xk, xn, xs)) := by unfold Hid; rw [HR.out]; rfl
    have HY := Lib.hid (B3.start w3 xk xn xs)
    have l4 := valloc w3 (.cells #[.int .u8 (xk : Int), .int .i64 xn, .string xs] 25)
    have HX4 := Lib.hid (HX3.out.later l4)
    have HB4 := Lib.hid (vnext HB3.out l4)
    clear l4 HX3 HB3
    go_upto_region 8 with fail
    generalize w3.alloc (.cells #[.int .u8 (xk : Int), .int .i64 xn, .string xs] 25) = w4 at *
    obtain ⟨y0, y1, y2, _, _, _⟩ := HY.out.cells
    have hyl := HY.out.lt
    have hX3 := HX4.out
    have HB3 := HB4
    obtain ⟨x0, x1, x2, z0, z1, z2⟩ := hX3.cells
    have hXl := hX3.lt
    obtain ⟨hq, hg⟩ := b3_set hX3 xk xn xs
    have hb5 := HB3.out.grown hg HB3.out.size (fun q hq => by injection hq with hq; omega)
    clear hg
    go_wp2_with fail
    generalize ((w4.setCell ⟨w.heap.size, 0, none⟩ (.int .u8 (xk : Int))).setCell ⟨w.heap.size, 1, none⟩ (.int .i64 xn)).setCell ⟨w.heap.size, 2, none⟩ (.string xs) = w5 at *
    obtain ⟨v0, v1, v2, _, _, _⟩ := hq.cells
    refine bodyPost_ret (v := .tuple #[.agg #[.int .u8 (xk : Int), .int .i64 xn, .string xs], .int .i64 0]) (by simp [results, Tryz.results20, go_sem, v0, v1, v2]) rfl ⟨by rw [HE.out]; rfl, hb5⟩
  | inl p =>
    obtain ⟨T, W'⟩ := p
    obtain ⟨u, v, hev, hOT, hON⟩ := hRV
    obtain rfl : e = .returned (.tuple #[u, v, .agg #[.int .u8 0, .int .i64 0, .string ⟨#[]⟩], .bool true]) := hev
    dsimp only at hOT hON
    obtain ⟨W0, rfl⟩ := convR_last _ _ _ _ _ _ HR.out
    rw [List.dropLast_concat] at hON
    obtain ⟨ta, tc, rfl, hTT⟩ := hOT.isOf cellsT_len
    obtain ⟨wa0, wc, rfl, hW⟩ := hON.isOf cellsW_len
    obtain ⟨f1, f2, f3, f4⟩ := HF.out T (W0 ++ [1]) HR.out
    have f3 : ∀ t ∈ T, t.size ≤ 256 := fun t ht => (f3 t ht).resolve_left (by simp)
    have f4 : ∀ x ∈ W0 ++ [1], x ≤ 9223372036854775807 := fun x hx => (f4 x hx).resolve_left (by simp)
    have hnl := HNL.out
    have h1 : 1 ≤ T.length := by
      rw [f1, hnl]
      obtain rfl := (by omega : n = 1)
      all_goals decide
    have hw9 : W0.length ≤ 16 := by
      have hc := Nat.le_trans (List.count_le_length (a := (110 : UInt8)) (l := List.take L.length [115])) (show _ ≤ 16 by rw [List.length_take]; exact Nat.le_trans (Nat.min_le_right _ _) (by decide))
      rw [List.length_append] at f2
      simp at f2
      omega
    have HE : Hid (resV 37 (convR [115] L [] []) = methV 37 T (W0 ++ [1])) := by unfold Hid; rw [HR.out]; rfl
    have l4 := valloc w3 (.cells #[.int .u8 0, .int .i64 0, .string ⟨#[]⟩] 25)
    have HX4 := Lib.hid (HX3.out.later l4)
    have HB4 := Lib.hid (vnext HB3.out l4)
    have HT4 := Lib.hid (hTT.later l4)
    have HW4 := Lib.hid (hW.later l4)
    have HV := Lib.hid (fun W (hX : Below w.heap.size w W) (hTT : IsT W ta T.length T) (hW : IsW W wa0 W0.length W0) => rv_37 ta wa0 T.length tc W0.length wc T W0 W hTT hW (g0 T) (g0_at h1) (Nat.le_trans (f3 _ (mem_at (g0_at h1))) (by decide)))
    clear l4 HX3 HB3 hOT hON hTT hW f1 f2 HF
    go_upto_region 8 with fail
    generalize w3.alloc (.cells #[.int .u8 0, .int .i64 0, .string ⟨#[]⟩] 25) = w4 at *
    obtain ⟨vv, hvv⟩ : ∃ vv, methV 37 T (W0 ++ [1]) = vv := ⟨_, rfl⟩
    have HV2 : Hid (∀ W, Below w.heap.size w W → IsT W ta T.length T → IsW W wa0 W0.length W0 → Calls Tryz.prog 55 #[.int .u8 37, .slice ta T.length tc, .slice wa0 W0.length wc] W fun e w' => e = .returned (vOf vv) ∧ Below W.heap.size W w') := by rw [← hvv]; exact HV.out
    rw [hvv] at HE
    obtain ⟨vk, vn, vs⟩ := vv
    unfold vOf at HV2
    dsimp only at HV2
    clear HV hvv f3 f4
    go_wp2_with fail
    refine (HV2.out _ HB4.out HT4.out  HW4.out).mono ?_
    rintro e w6 ⟨rfl, hB6⟩
    have hX3 := HX4.out.later hB6
    have HB3 := Lib.hid (vnext HB4.out hB6)
    clear hB6
    obtain ⟨x0, x1, x2, z0, z1, z2⟩ := hX3.cells
    have hXl := hX3.lt
    obtain ⟨hq, hg⟩ := b3_set hX3 vk vn vs
    have hb5 := HB3.out.grown hg HB3.out.size (fun q hq => by injection hq with hq; omega)
    clear hg
    go_wp2_with fail
    generalize ((w6.setCell ⟨w.heap.size, 0, none⟩ (.int .u8 (vk : Int))).setCell ⟨w.heap.size, 1, none⟩ (.int .i64 vn)).setCell ⟨w.heap.size, 2, none⟩ (.string vs) = w5 at *
    obtain ⟨v0, v1, v2, _, _, _⟩ := hq.cells
    refine bodyPost_ret (v := .tuple #[.agg #[.int .u8 (vk : Int), .int .i64 vn, .string vs], .int .i64 0]) (by simp [results, Tryz.results20, go_sem, v0, v1, v2]) rfl ⟨by rw [HE.out]; rfl, hb5⟩
set_option maxRecDepth 100000 in
set_option maxHeartbeats 6400000 in
theorem rcall_38 (a : Option Addr) (n cap : Nat) (L : List V3) (w : World) (hL : IsV w a n L) (hl : 1 ≤ n) (hn : n ≤ 16) (hv : ∀ v ∈ L, v.2.2.size ≤ 2000 ∧ InI v.2.1) (hb : okL L = true) (hT : Tb w) :
    Calls Tryz.prog 20 #[.int .u8 38, .slice a n cap] w fun e w' => e = .returned (.tuple #[vOf (resV 38 (convR [115, 115, 115, 115, 115, 115, 115, 115, 115, 115, 115, 115, 115, 115, 115, 115] L [] [])), .int .i64 0]) ∧ Below w.heap.size w w' := by
  have HX : Hid (B3 (w.alloc (.cells #[.int .u8 0, .int .i64 0, .string ⟨#[]⟩] 25)) w.heap.size 0 0 ⟨#[]⟩) := B3.start w 0 0 ⟨#[]⟩
  have HB := Lib.hid (valloc w (.cells #[.int .u8 0, .int .i64 0, .string ⟨#[]⟩] 25))
  have HCN := Lib.hid (fun W => rcount_any 38 n (by omega) W rar_38)
  rw [decide_eq_true (show (arV 38).1 ≤ n ∧ n ≤ (arV 38).2 from ⟨hl, hn⟩)] at HCN
  have HVA := Lib.hid (fun W hW => rvalid_any a n cap L (by omega) W hW (fun v h => ⟨Nat.le_trans (hv v h).1 (by unfold maxLen; decide), by have := (hv v h).2; unfold InI at this; unfold leastI; omega⟩))
  have HL := Lib.hid hL
  rw [hb] at HVA
  have HT := Lib.hid hT
  have HCO := Lib.hid (fun W hW hT => rconvert_any 38 ⟨#[115, 115, 115, 115, 115, 115, 115, 115, 115, 115, 115, 115, 115, 115, 115, 115]⟩ a n cap L W hW hn (by decide) (by decide) wh_38 hv hT)
  have HF := Lib.hid (fun T W' => convR_facts [115, 115, 115, 115, 115, 115, 115, 115, 115, 115, 115, 115, 115, 115, 115, 115] L [] [] T W' (fun v h => (hv v h).2) (by decide))
  have HNL := Lib.hid hL.1
  rw [show (⟨#[115, 115, 115, 115, 115, 115, 115, 115, 115, 115, 115, 115, 115, 115, 115, 115]⟩ : ByteArray).data.toList = [115, 115, 115, 115, 115, 115, 115, 115, 115, 115, 115, 115, 115, 115, 115, 115] from rfl] at HCO
  obtain ⟨R, hR⟩ : ∃ R, convR [115, 115, 115, 115, 115, 115, 115, 115, 115, 115, 115, 115, 115, 115, 115, 115] L [] [] = R := ⟨_, rfl⟩
  rw [hR] at HCO
  have HR := Lib.hid hR
  clear hL hv hT hR
  go_enter Tryz.func20, Tryz.ntmps20
  go_wp2_with fail
  generalize w.alloc (.cells #[.int .u8 0, .int .i64 0, .string ⟨#[]⟩] 25) = wa at *
  refine (HCN.out _).mono ?_
  rintro e w1 ⟨rfl, hB1⟩
  have HX1 := Lib.hid (HX.out.later hB1)
  have HB1 := Lib.hid (vnext HB.out hB1)
  clear hB1 HX HB
  go_wp2_with fail
  refine (HVA.out _ (IsOf.later HL.out HB1.out)).mono ?_
  rintro e w2 ⟨rfl, hB2⟩
  have HX2 := Lib.hid (HX1.out.later hB2)
  have HB2 := Lib.hid (vnext HB1.out hB2)
  clear hB2 HX1 HB1
  go_wp2_with fail
  refine (HCO.out _ (IsOf.later HL.out HB2.out) (HT.out.later HB2.out)).mono ?_
  rintro e w3 ⟨hRV, hB3⟩
  have HX3 := Lib.hid (HX2.out.later hB3)
  have HB3 := Lib.hid (vnext HB2.out hB3)
  clear hB3 HX2 HB2
  clear HCN HVA HCO HL
  cases R with
  | inr x =>
    obtain ⟨xk, xn, xs⟩ := x
    obtain rfl : e = .returned (.tuple #[.slice none 0 0, .slice none 0 0, .agg #[.int .u8 (xk : Int), .int .i64 xn, .string xs], .bool false]) := hRV
    have HE : Hid (resV 38 (convR [115, 115, 115, 115, 115, 115, 115, 115, 115, 115, 115, 115, 115, 115, 115, 115] L [] []) = (xk, xn, xs)) := by unfold Hid; rw [HR.out]; rfl
    have HY := Lib.hid (B3.start w3 xk xn xs)
    have l4 := valloc w3 (.cells #[.int .u8 (xk : Int), .int .i64 xn, .string xs] 25)
    have HX4 := Lib.hid (HX3.out.later l4)
    have HB4 := Lib.hid (vnext HB3.out l4)
    clear l4 HX3 HB3
    go_upto_region 8 with fail
    generalize w3.alloc (.cells #[.int .u8 (xk : Int), .int .i64 xn, .string xs] 25) = w4 at *
    obtain ⟨y0, y1, y2, _, _, _⟩ := HY.out.cells
    have hyl := HY.out.lt
    have hX3 := HX4.out
    have HB3 := HB4
    obtain ⟨x0, x1, x2, z0, z1, z2⟩ := hX3.cells
    have hXl := hX3.lt
    obtain ⟨hq, hg⟩ := b3_set hX3 xk xn xs
    have hb5 := HB3.out.grown hg HB3.out.size (fun q hq => by injection hq with hq; omega)
    clear hg
    go_wp2_with fail
    generalize ((w4.setCell ⟨w.heap.size, 0, none⟩ (.int .u8 (xk : Int))).setCell ⟨w.heap.size, 1, none⟩ (.int .i64 xn)).setCell ⟨w.heap.size, 2, none⟩ (.string xs) = w5 at *
    obtain ⟨v0, v1, v2, _, _, _⟩ := hq.cells
    refine bodyPost_ret (v := .tuple #[.agg #[.int .u8 (xk : Int), .int .i64 xn, .string xs], .int .i64 0]) (by simp [results, Tryz.results20, go_sem, v0, v1, v2]) rfl ⟨by rw [HE.out]; rfl, hb5⟩
  | inl p =>
    obtain ⟨T, W'⟩ := p
    obtain ⟨u, v, hev, hOT, hON⟩ := hRV
    obtain rfl : e = .returned (.tuple #[u, v, .agg #[.int .u8 0, .int .i64 0, .string ⟨#[]⟩], .bool true]) := hev
    dsimp only at hOT hON
    obtain ⟨W0, rfl⟩ := convR_last _ _ _ _ _ _ HR.out
    rw [List.dropLast_concat] at hON
    obtain ⟨ta, tc, rfl, hTT⟩ := hOT.isOf cellsT_len
    obtain ⟨wa0, wc, rfl, hW⟩ := hON.isOf cellsW_len
    obtain ⟨f1, f2, f3, f4⟩ := HF.out T (W0 ++ [1]) HR.out
    have f3 : ∀ t ∈ T, t.size ≤ 256 := fun t ht => (f3 t ht).resolve_left (by simp)
    have f4 : ∀ x ∈ W0 ++ [1], x ≤ 9223372036854775807 := fun x hx => (f4 x hx).resolve_left (by simp)
    have hnl := HNL.out
    have hc16 : (List.take L.length [115, 115, 115, 115, 115, 115, 115, 115, 115, 115, 115, 115, 115, 115, 115, 115]).count (115 : UInt8) ≤ 16 := Nat.le_trans List.count_le_length (by rw [List.length_take]; exact Nat.min_le_right _ _)
    have h1 : T.length ≤ 16 := by rw [f1]; simpa using hc16
    have hw9 : W0.length ≤ 16 := by
      have hc := Nat.le_trans (List.count_le_length (a := (110 : UInt8)) (l := List.take L.length [115, 115, 115, 115, 115, 115, 115, 115, 115, 115, 115, 115, 115, 115, 115, 115])) (show _ ≤ 16 by rw [List.length_take]; exact Nat.le_trans (Nat.min_le_right _ _) (by decide))
      rw [List.length_append] at f2
      simp at f2
      omega
    have HE : Hid (resV 38 (convR [115, 115, 115, 115, 115, 115, 115, 115, 115, 115, 115, 115, 115, 115, 115, 115] L [] []) = methV 38 T (W0 ++ [1])) := by unfold Hid; rw [HR.out]; rfl
    have l4 := valloc w3 (.cells #[.int .u8 0, .int .i64 0, .string ⟨#[]⟩] 25)
    have HX4 := Lib.hid (HX3.out.later l4)
    have HB4 := Lib.hid (vnext HB3.out l4)
    have HT4 := Lib.hid (hTT.later l4)
    have HW4 := Lib.hid (hW.later l4)
    have HV := Lib.hid (fun W (hX : Below w.heap.size w W) (hTT : IsT W ta T.length T) (hW : IsW W wa0 W0.length W0) => rv_38 ta wa0 T.length tc W0.length wc T W0 W hTT hW f3 (by omega))
    clear l4 HX3 HB3 hOT hON hTT hW f1 f2 HF
    go_upto_region 8 with fail
    generalize w3.alloc (.cells #[.int .u8 0, .int .i64 0, .string ⟨#[]⟩] 25) = w4 at *
    obtain ⟨vv, hvv⟩ : ∃ vv, methV 38 T (W0 ++ [1]) = vv := ⟨_, rfl⟩
    have HV2 : Hid (∀ W, Below w.heap.size w W → IsT W ta T.length T → IsW W wa0 W0.length W0 → Calls Tryz.prog 55 #[.int .u8 38, .slice ta T.length tc, .slice wa0 W0.length wc] W fun e w' => e = .returned (vOf vv) ∧ Below W.heap.size W w') := by rw [← hvv]; exact HV.out
    rw [hvv] at HE
    obtain ⟨vk, vn, vs⟩ := vv
    unfold vOf at HV2
    dsimp only at HV2
    clear HV hvv f3 f4
    go_wp2_with fail
    refine (HV2.out _ HB4.out HT4.out  HW4.out).mono ?_
    rintro e w6 ⟨rfl, hB6⟩
    have hX3 := HX4.out.later hB6
    have HB3 := Lib.hid (vnext HB4.out hB6)
    clear hB6
    obtain ⟨x0, x1, x2, z0, z1, z2⟩ := hX3.cells
    have hXl := hX3.lt
    obtain ⟨hq, hg⟩ := b3_set hX3 vk vn vs
    have hb5 := HB3.out.grown hg HB3.out.size (fun q hq => by injection hq with hq; omega)
    clear hg
    go_wp2_with fail
    generalize ((w6.setCell ⟨w.heap.size, 0, none⟩ (.int .u8 (vk : Int))).setCell ⟨w.heap.size, 1, none⟩ (.int .i64 vn)).setCell ⟨w.heap.size, 2, none⟩ (.string vs) = w5 at *
    obtain ⟨v0, v1, v2, _, _, _⟩ := hq.cells
    refine bodyPost_ret (v := .tuple #[.agg #[.int .u8 (vk : Int), .int .i64 vn, .string vs], .int .i64 0]) (by simp [results, Tryz.results20, go_sem, v0, v1, v2]) rfl ⟨by rw [HE.out]; rfl, hb5⟩
set_option maxRecDepth 100000 in
set_option maxHeartbeats 6400000 in
theorem rcall_39 (a : Option Addr) (n cap : Nat) (L : List V3) (w : World) (hL : IsV w a n L) (hl : 2 ≤ n) (hn : n ≤ 2) (hv : ∀ v ∈ L, v.2.2.size ≤ 2000 ∧ InI v.2.1) (hb : okL L = true) (hT : Tb w) :
    Calls Tryz.prog 20 #[.int .u8 39, .slice a n cap] w fun e w' => e = .returned (.tuple #[vOf (resV 39 (convR [115, 110] L [] [])), .int .i64 0]) ∧ Below w.heap.size w w' := by
  have HX : Hid (B3 (w.alloc (.cells #[.int .u8 0, .int .i64 0, .string ⟨#[]⟩] 25)) w.heap.size 0 0 ⟨#[]⟩) := B3.start w 0 0 ⟨#[]⟩
  have HB := Lib.hid (valloc w (.cells #[.int .u8 0, .int .i64 0, .string ⟨#[]⟩] 25))
  have HCN := Lib.hid (fun W => rcount_any 39 n (by omega) W rar_39)
  rw [decide_eq_true (show (arV 39).1 ≤ n ∧ n ≤ (arV 39).2 from ⟨hl, hn⟩)] at HCN
  have HVA := Lib.hid (fun W hW => rvalid_any a n cap L (by omega) W hW (fun v h => ⟨Nat.le_trans (hv v h).1 (by unfold maxLen; decide), by have := (hv v h).2; unfold InI at this; unfold leastI; omega⟩))
  have HL := Lib.hid hL
  rw [hb] at HVA
  have HT := Lib.hid hT
  have HCO := Lib.hid (fun W hW hT => rconvert_any 39 ⟨#[115, 110]⟩ a n cap L W hW hn (by decide) (by decide) wh_39 hv hT)
  have HF := Lib.hid (fun T W' => convR_facts [115, 110] L [] [] T W' (fun v h => (hv v h).2) (by decide))
  have HNL := Lib.hid hL.1
  rw [show (⟨#[115, 110]⟩ : ByteArray).data.toList = [115, 110] from rfl] at HCO
  obtain ⟨R, hR⟩ : ∃ R, convR [115, 110] L [] [] = R := ⟨_, rfl⟩
  rw [hR] at HCO
  have HR := Lib.hid hR
  clear hL hv hT hR
  go_enter Tryz.func20, Tryz.ntmps20
  go_wp2_with fail
  generalize w.alloc (.cells #[.int .u8 0, .int .i64 0, .string ⟨#[]⟩] 25) = wa at *
  refine (HCN.out _).mono ?_
  rintro e w1 ⟨rfl, hB1⟩
  have HX1 := Lib.hid (HX.out.later hB1)
  have HB1 := Lib.hid (vnext HB.out hB1)
  clear hB1 HX HB
  go_wp2_with fail
  refine (HVA.out _ (IsOf.later HL.out HB1.out)).mono ?_
  rintro e w2 ⟨rfl, hB2⟩
  have HX2 := Lib.hid (HX1.out.later hB2)
  have HB2 := Lib.hid (vnext HB1.out hB2)
  clear hB2 HX1 HB1
  go_wp2_with fail
  refine (HCO.out _ (IsOf.later HL.out HB2.out) (HT.out.later HB2.out)).mono ?_
  rintro e w3 ⟨hRV, hB3⟩
  have HX3 := Lib.hid (HX2.out.later hB3)
  have HB3 := Lib.hid (vnext HB2.out hB3)
  clear hB3 HX2 HB2
  clear HCN HVA HCO HL
  cases R with
  | inr x =>
    obtain ⟨xk, xn, xs⟩ := x
    obtain rfl : e = .returned (.tuple #[.slice none 0 0, .slice none 0 0, .agg #[.int .u8 (xk : Int), .int .i64 xn, .string xs], .bool false]) := hRV
    have HE : Hid (resV 39 (convR [115, 110] L [] []) = (xk, xn, xs)) := by unfold Hid; rw [HR.out]; rfl
    have HY := Lib.hid (B3.start w3 xk xn xs)
    have l4 := valloc w3 (.cells #[.int .u8 (xk : Int), .int .i64 xn, .string xs] 25)
    have HX4 := Lib.hid (HX3.out.later l4)
    have HB4 := Lib.hid (vnext HB3.out l4)
    clear l4 HX3 HB3
    go_upto_region 8 with fail
    generalize w3.alloc (.cells #[.int .u8 (xk : Int), .int .i64 xn, .string xs] 25) = w4 at *
    obtain ⟨y0, y1, y2, _, _, _⟩ := HY.out.cells
    have hyl := HY.out.lt
    have hX3 := HX4.out
    have HB3 := HB4
    obtain ⟨x0, x1, x2, z0, z1, z2⟩ := hX3.cells
    have hXl := hX3.lt
    obtain ⟨hq, hg⟩ := b3_set hX3 xk xn xs
    have hb5 := HB3.out.grown hg HB3.out.size (fun q hq => by injection hq with hq; omega)
    clear hg
    go_wp2_with fail
    generalize ((w4.setCell ⟨w.heap.size, 0, none⟩ (.int .u8 (xk : Int))).setCell ⟨w.heap.size, 1, none⟩ (.int .i64 xn)).setCell ⟨w.heap.size, 2, none⟩ (.string xs) = w5 at *
    obtain ⟨v0, v1, v2, _, _, _⟩ := hq.cells
    refine bodyPost_ret (v := .tuple #[.agg #[.int .u8 (xk : Int), .int .i64 xn, .string xs], .int .i64 0]) (by simp [results, Tryz.results20, go_sem, v0, v1, v2]) rfl ⟨by rw [HE.out]; rfl, hb5⟩
  | inl p =>
    obtain ⟨T, W'⟩ := p
    obtain ⟨u, v, hev, hOT, hON⟩ := hRV
    obtain rfl : e = .returned (.tuple #[u, v, .agg #[.int .u8 0, .int .i64 0, .string ⟨#[]⟩], .bool true]) := hev
    dsimp only at hOT hON
    obtain ⟨W0, rfl⟩ := convR_last _ _ _ _ _ _ HR.out
    rw [List.dropLast_concat] at hON
    obtain ⟨ta, tc, rfl, hTT⟩ := hOT.isOf cellsT_len
    obtain ⟨wa0, wc, rfl, hW⟩ := hON.isOf cellsW_len
    obtain ⟨f1, f2, f3, f4⟩ := HF.out T (W0 ++ [1]) HR.out
    have f3 : ∀ t ∈ T, t.size ≤ 256 := fun t ht => (f3 t ht).resolve_left (by simp)
    have f4 : ∀ x ∈ W0 ++ [1], x ≤ 9223372036854775807 := fun x hx => (f4 x hx).resolve_left (by simp)
    have hnl := HNL.out
    have h1 : 1 ≤ T.length := by
      rw [f1, hnl]
      obtain rfl := (by omega : n = 2)
      all_goals decide
    have hw9 : W0.length ≤ 16 := by
      have hc := Nat.le_trans (List.count_le_length (a := (110 : UInt8)) (l := List.take L.length [115, 110])) (show _ ≤ 16 by rw [List.length_take]; exact Nat.le_trans (Nat.min_le_right _ _) (by decide))
      rw [List.length_append] at f2
      simp at f2
      omega
    have h2 : 1 ≤ W0.length := by
      have : (W0 ++ [1]).length = 2 := by
        rw [f2, hnl]
        obtain rfl := (by omega : n = 2)
        all_goals decide
      rw [List.length_append] at this
      simp at this
      omega
    have HE : Hid (resV 39 (convR [115, 110] L [] []) = methV 39 T (W0 ++ [1])) := by unfold Hid; rw [HR.out]; rfl
    have l4 := valloc w3 (.cells #[.int .u8 0, .int .i64 0, .string ⟨#[]⟩] 25)
    have HX4 := Lib.hid (HX3.out.later l4)
    have HB4 := Lib.hid (vnext HB3.out l4)
    have HT4 := Lib.hid (hTT.later l4)
    have HW4 := Lib.hid (hW.later l4)
    have HV := Lib.hid (fun W (hX : Below w.heap.size w W) (hTT : IsT W ta T.length T) (hW : IsW W wa0 W0.length W0) => rv_39 ta wa0 T.length tc W0.length wc T W0 W hTT hW (g0 T) (g0_at h1) (Nat.le_trans (f3 _ (mem_at (g0_at h1))) (by decide)) (n0 (W0 ++ [1])) (last_at h2) (f4 _ (by rw [List.mem_append]; exact .inl (mem_at (last_at h2)))))
    clear l4 HX3 HB3 hOT hON hTT hW f1 f2 HF
    go_upto_region 8 with fail
    generalize w3.alloc (.cells #[.int .u8 0, .int .i64 0, .string ⟨#[]⟩] 25) = w4 at *
    obtain ⟨vv, hvv⟩ : ∃ vv, methV 39 T (W0 ++ [1]) = vv := ⟨_, rfl⟩
    have HV2 : Hid (∀ W, Below w.heap.size w W → IsT W ta T.length T → IsW W wa0 W0.length W0 → Calls Tryz.prog 55 #[.int .u8 39, .slice ta T.length tc, .slice wa0 W0.length wc] W fun e w' => e = .returned (vOf vv) ∧ Below W.heap.size W w') := by rw [← hvv]; exact HV.out
    rw [hvv] at HE
    obtain ⟨vk, vn, vs⟩ := vv
    unfold vOf at HV2
    dsimp only at HV2
    clear HV hvv f3 f4
    go_wp2_with fail
    refine (HV2.out _ HB4.out HT4.out  HW4.out).mono ?_
    rintro e w6 ⟨rfl, hB6⟩
    have hX3 := HX4.out.later hB6
    have HB3 := Lib.hid (vnext HB4.out hB6)
    clear hB6
    obtain ⟨x0, x1, x2, z0, z1, z2⟩ := hX3.cells
    have hXl := hX3.lt
    obtain ⟨hq, hg⟩ := b3_set hX3 vk vn vs
    have hb5 := HB3.out.grown hg HB3.out.size (fun q hq => by injection hq with hq; omega)
    clear hg
    go_wp2_with fail
    generalize ((w6.setCell ⟨w.heap.size, 0, none⟩ (.int .u8 (vk : Int))).setCell ⟨w.heap.size, 1, none⟩ (.int .i64 vn)).setCell ⟨w.heap.size, 2, none⟩ (.string vs) = w5 at *
    obtain ⟨v0, v1, v2, _, _, _⟩ := hq.cells
    refine bodyPost_ret (v := .tuple #[.agg #[.int .u8 (vk : Int), .int .i64 vn, .string vs], .int .i64 0]) (by simp [results, Tryz.results20, go_sem, v0, v1, v2]) rfl ⟨by rw [HE.out]; rfl, hb5⟩
set_option maxRecDepth 100000 in
set_option maxHeartbeats 6400000 in
theorem rcall_40 (a : Option Addr) (n cap : Nat) (L : List V3) (w : World) (hL : IsV w a n L) (hl : 2 ≤ n) (hn : n ≤ 2) (hv : ∀ v ∈ L, v.2.2.size ≤ 2000 ∧ InI v.2.1) (hb : okL L = true) (hT : Tb w) :
    Calls Tryz.prog 20 #[.int .u8 40, .slice a n cap] w fun e w' => e = .returned (.tuple #[vOf (resV 40 (convR [115, 115] L [] [])), .int .i64 0]) ∧ Below w.heap.size w w' := by
  have HX : Hid (B3 (w.alloc (.cells #[.int .u8 0, .int .i64 0, .string ⟨#[]⟩] 25)) w.heap.size 0 0 ⟨#[]⟩) := B3.start w 0 0 ⟨#[]⟩
  have HB := Lib.hid (valloc w (.cells #[.int .u8 0, .int .i64 0, .string ⟨#[]⟩] 25))
  have HCN := Lib.hid (fun W => rcount_any 40 n (by omega) W rar_40)
  rw [decide_eq_true (show (arV 40).1 ≤ n ∧ n ≤ (arV 40).2 from ⟨hl, hn⟩)] at HCN
  have HVA := Lib.hid (fun W hW => rvalid_any a n cap L (by omega) W hW (fun v h => ⟨Nat.le_trans (hv v h).1 (by unfold maxLen; decide), by have := (hv v h).2; unfold InI at this; unfold leastI; omega⟩))
  have HL := Lib.hid hL
  rw [hb] at HVA
  have HT := Lib.hid hT
  have HCO := Lib.hid (fun W hW hT => rconvert_any 40 ⟨#[115, 115]⟩ a n cap L W hW hn (by decide) (by decide) wh_40 hv hT)
  have HF := Lib.hid (fun T W' => convR_facts [115, 115] L [] [] T W' (fun v h => (hv v h).2) (by decide))
  have HNL := Lib.hid hL.1
  rw [show (⟨#[115, 115]⟩ : ByteArray).data.toList = [115, 115] from rfl] at HCO
  obtain ⟨R, hR⟩ : ∃ R, convR [115, 115] L [] [] = R := ⟨_, rfl⟩
  rw [hR] at HCO
  have HR := Lib.hid hR
  clear hL hv hT hR
  go_enter Tryz.func20, Tryz.ntmps20
  go_wp2_with fail
  generalize w.alloc (.cells #[.int .u8 0, .int .i64 0, .string ⟨#[]⟩] 25) = wa at *
  refine (HCN.out _).mono ?_
  rintro e w1 ⟨rfl, hB1⟩
  have HX1 := Lib.hid (HX.out.later hB1)
  have HB1 := Lib.hid (vnext HB.out hB1)
  clear hB1 HX HB
  go_wp2_with fail
  refine (HVA.out _ (IsOf.later HL.out HB1.out)).mono ?_
  rintro e w2 ⟨rfl, hB2⟩
  have HX2 := Lib.hid (HX1.out.later hB2)
  have HB2 := Lib.hid (vnext HB1.out hB2)
  clear hB2 HX1 HB1
  go_wp2_with fail
  refine (HCO.out _ (IsOf.later HL.out HB2.out) (HT.out.later HB2.out)).mono ?_
  rintro e w3 ⟨hRV, hB3⟩
  have HX3 := Lib.hid (HX2.out.later hB3)
  have HB3 := Lib.hid (vnext HB2.out hB3)
  clear hB3 HX2 HB2
  clear HCN HVA HCO HL
  cases R with
  | inr x =>
    obtain ⟨xk, xn, xs⟩ := x
    obtain rfl : e = .returned (.tuple #[.slice none 0 0, .slice none 0 0, .agg #[.int .u8 (xk : Int), .int .i64 xn, .string xs], .bool false]) := hRV
    have HE : Hid (resV 40 (convR [115, 115] L [] []) = (xk, xn, xs)) := by unfold Hid; rw [HR.out]; rfl
    have HY := Lib.hid (B3.start w3 xk xn xs)
    have l4 := valloc w3 (.cells #[.int .u8 (xk : Int), .int .i64 xn, .string xs] 25)
    have HX4 := Lib.hid (HX3.out.later l4)
    have HB4 := Lib.hid (vnext HB3.out l4)
    clear l4 HX3 HB3
    go_upto_region 8 with fail
    generalize w3.alloc (.cells #[.int .u8 (xk : Int), .int .i64 xn, .string xs] 25) = w4 at *
    obtain ⟨y0, y1, y2, _, _, _⟩ := HY.out.cells
    have hyl := HY.out.lt
    have hX3 := HX4.out
    have HB3 := HB4
    obtain ⟨x0, x1, x2, z0, z1, z2⟩ := hX3.cells
    have hXl := hX3.lt
    obtain ⟨hq, hg⟩ := b3_set hX3 xk xn xs
    have hb5 := HB3.out.grown hg HB3.out.size (fun q hq => by injection hq with hq; omega)
    clear hg
    go_wp2_with fail
    generalize ((w4.setCell ⟨w.heap.size, 0, none⟩ (.int .u8 (xk : Int))).setCell ⟨w.heap.size, 1, none⟩ (.int .i64 xn)).setCell ⟨w.heap.size, 2, none⟩ (.string xs) = w5 at *
    obtain ⟨v0, v1, v2, _, _, _⟩ := hq.cells
    refine bodyPost_ret (v := .tuple #[.agg #[.int .u8 (xk : Int), .int .i64 xn, .string xs], .int .i64 0]) (by simp [results, Tryz.results20, go_sem, v0, v1, v2]) rfl ⟨by rw [HE.out]; rfl, hb5⟩
  | inl p =>
    obtain ⟨T, W'⟩ := p
    obtain ⟨u, v, hev, hOT, hON⟩ := hRV
    obtain rfl : e = .returned (.tuple #[u, v, .agg #[.int .u8 0, .int .i64 0, .string ⟨#[]⟩], .bool true]) := hev
    dsimp only at hOT hON
    obtain ⟨W0, rfl⟩ := convR_last _ _ _ _ _ _ HR.out
    rw [List.dropLast_concat] at hON
    obtain ⟨ta, tc, rfl, hTT⟩ := hOT.isOf cellsT_len
    obtain ⟨wa0, wc, rfl, hW⟩ := hON.isOf cellsW_len
    obtain ⟨f1, f2, f3, f4⟩ := HF.out T (W0 ++ [1]) HR.out
    have f3 : ∀ t ∈ T, t.size ≤ 256 := fun t ht => (f3 t ht).resolve_left (by simp)
    have f4 : ∀ x ∈ W0 ++ [1], x ≤ 9223372036854775807 := fun x hx => (f4 x hx).resolve_left (by simp)
    have hnl := HNL.out
    have h1 : 2 ≤ T.length := by
      rw [f1, hnl]
      obtain rfl := (by omega : n = 2)
      all_goals decide
    have hw9 : W0.length ≤ 16 := by
      have hc := Nat.le_trans (List.count_le_length (a := (110 : UInt8)) (l := List.take L.length [115, 115])) (show _ ≤ 16 by rw [List.length_take]; exact Nat.le_trans (Nat.min_le_right _ _) (by decide))
      rw [List.length_append] at f2
      simp at f2
      omega
    have HE : Hid (resV 40 (convR [115, 115] L [] []) = methV 40 T (W0 ++ [1])) := by unfold Hid; rw [HR.out]; rfl
    have l4 := valloc w3 (.cells #[.int .u8 0, .int .i64 0, .string ⟨#[]⟩] 25)
    have HX4 := Lib.hid (HX3.out.later l4)
    have HB4 := Lib.hid (vnext HB3.out l4)
    have HT4 := Lib.hid (hTT.later l4)
    have HW4 := Lib.hid (hW.later l4)
    have HV := Lib.hid (fun W (hX : Below w.heap.size w W) (hTT : IsT W ta T.length T) (hW : IsW W wa0 W0.length W0) => rv_40 ta wa0 T.length tc W0.length wc T W0 W hTT hW (g0 T) (g1 T) (g0_at (Nat.le_trans (by decide) h1)) (g1_at h1))
    clear l4 HX3 HB3 hOT hON hTT hW f1 f2 HF
    go_upto_region 8 with fail
    generalize w3.alloc (.cells #[.int .u8 0, .int .i64 0, .string ⟨#[]⟩] 25) = w4 at *
    obtain ⟨vv, hvv⟩ : ∃ vv, methV 40 T (W0 ++ [1]) = vv := ⟨_, rfl⟩
    have HV2 : Hid (∀ W, Below w.heap.size w W → IsT W ta T.length T → IsW W wa0 W0.length W0 → Calls Tryz.prog 55 #[.int .u8 40, .slice ta T.length tc, .slice wa0 W0.length wc] W fun e w' => e = .returned (vOf vv) ∧ Below W.heap.size W w') := by rw [← hvv]; exact HV.out
    rw [hvv] at HE
    obtain ⟨vk, vn, vs⟩ := vv
    unfold vOf at HV2
    dsimp only at HV2
    clear HV hvv f3 f4
    go_wp2_with fail
    refine (HV2.out _ HB4.out HT4.out  HW4.out).mono ?_
    rintro e w6 ⟨rfl, hB6⟩
    have hX3 := HX4.out.later hB6
    have HB3 := Lib.hid (vnext HB4.out hB6)
    clear hB6
    obtain ⟨x0, x1, x2, z0, z1, z2⟩ := hX3.cells
    have hXl := hX3.lt
    obtain ⟨hq, hg⟩ := b3_set hX3 vk vn vs
    have hb5 := HB3.out.grown hg HB3.out.size (fun q hq => by injection hq with hq; omega)
    clear hg
    go_wp2_with fail
    generalize ((w6.setCell ⟨w.heap.size, 0, none⟩ (.int .u8 (vk : Int))).setCell ⟨w.heap.size, 1, none⟩ (.int .i64 vn)).setCell ⟨w.heap.size, 2, none⟩ (.string vs) = w5 at *
    obtain ⟨v0, v1, v2, _, _, _⟩ := hq.cells
    refine bodyPost_ret (v := .tuple #[.agg #[.int .u8 (vk : Int), .int .i64 vn, .string vs], .int .i64 0]) (by simp [results, Tryz.results20, go_sem, v0, v1, v2]) rfl ⟨by rw [HE.out]; rfl, hb5⟩
set_option maxRecDepth 100000 in
set_option maxHeartbeats 6400000 in
theorem rcall_41 (a : Option Addr) (n cap : Nat) (L : List V3) (w : World) (hL : IsV w a n L) (hl : 2 ≤ n) (hn : n ≤ 3) (hv : ∀ v ∈ L, v.2.2.size ≤ 2000 ∧ InI v.2.1) (hb : okL L = true) (hT : Tb w) :
    Calls Tryz.prog 20 #[.int .u8 41, .slice a n cap] w fun e w' => e = .returned (.tuple #[vOf (resV 41 (convR [115, 115, 110] L [] [])), .int .i64 0]) ∧ Below w.heap.size w w' := by
  have HX : Hid (B3 (w.alloc (.cells #[.int .u8 0, .int .i64 0, .string ⟨#[]⟩] 25)) w.heap.size 0 0 ⟨#[]⟩) := B3.start w 0 0 ⟨#[]⟩
  have HB := Lib.hid (valloc w (.cells #[.int .u8 0, .int .i64 0, .string ⟨#[]⟩] 25))
  have HCN := Lib.hid (fun W => rcount_any 41 n (by omega) W rar_41)
  rw [decide_eq_true (show (arV 41).1 ≤ n ∧ n ≤ (arV 41).2 from ⟨hl, hn⟩)] at HCN
  have HVA := Lib.hid (fun W hW => rvalid_any a n cap L (by omega) W hW (fun v h => ⟨Nat.le_trans (hv v h).1 (by unfold maxLen; decide), by have := (hv v h).2; unfold InI at this; unfold leastI; omega⟩))
  have HL := Lib.hid hL
  rw [hb] at HVA
  have HT := Lib.hid hT
  have HCO := Lib.hid (fun W hW hT => rconvert_any 41 ⟨#[115, 115, 110]⟩ a n cap L W hW hn (by decide) (by decide) wh_41 hv hT)
  have HF := Lib.hid (fun T W' => convR_facts [115, 115, 110] L [] [] T W' (fun v h => (hv v h).2) (by decide))
  have HNL := Lib.hid hL.1
  rw [show (⟨#[115, 115, 110]⟩ : ByteArray).data.toList = [115, 115, 110] from rfl] at HCO
  obtain ⟨R, hR⟩ : ∃ R, convR [115, 115, 110] L [] [] = R := ⟨_, rfl⟩
  rw [hR] at HCO
  have HR := Lib.hid hR
  clear hL hv hT hR
  go_enter Tryz.func20, Tryz.ntmps20
  go_wp2_with fail
  generalize w.alloc (.cells #[.int .u8 0, .int .i64 0, .string ⟨#[]⟩] 25) = wa at *
  refine (HCN.out _).mono ?_
  rintro e w1 ⟨rfl, hB1⟩
  have HX1 := Lib.hid (HX.out.later hB1)
  have HB1 := Lib.hid (vnext HB.out hB1)
  clear hB1 HX HB
  go_wp2_with fail
  refine (HVA.out _ (IsOf.later HL.out HB1.out)).mono ?_
  rintro e w2 ⟨rfl, hB2⟩
  have HX2 := Lib.hid (HX1.out.later hB2)
  have HB2 := Lib.hid (vnext HB1.out hB2)
  clear hB2 HX1 HB1
  go_wp2_with fail
  refine (HCO.out _ (IsOf.later HL.out HB2.out) (HT.out.later HB2.out)).mono ?_
  rintro e w3 ⟨hRV, hB3⟩
  have HX3 := Lib.hid (HX2.out.later hB3)
  have HB3 := Lib.hid (vnext HB2.out hB3)
  clear hB3 HX2 HB2
  clear HCN HVA HCO HL
  cases R with
  | inr x =>
    obtain ⟨xk, xn, xs⟩ := x
    obtain rfl : e = .returned (.tuple #[.slice none 0 0, .slice none 0 0, .agg #[.int .u8 (xk : Int), .int .i64 xn, .string xs], .bool false]) := hRV
    have HE : Hid (resV 41 (convR [115, 115, 110] L [] []) = (xk, xn, xs)) := by unfold Hid; rw [HR.out]; rfl
    have HY := Lib.hid (B3.start w3 xk xn xs)
    have l4 := valloc w3 (.cells #[.int .u8 (xk : Int), .int .i64 xn, .string xs] 25)
    have HX4 := Lib.hid (HX3.out.later l4)
    have HB4 := Lib.hid (vnext HB3.out l4)
    clear l4 HX3 HB3
    go_upto_region 8 with fail
    generalize w3.alloc (.cells #[.int .u8 (xk : Int), .int .i64 xn, .string xs] 25) = w4 at *
    obtain ⟨y0, y1, y2, _, _, _⟩ := HY.out.cells
    have hyl := HY.out.lt
    have hX3 := HX4.out
    have HB3 := HB4
    obtain ⟨x0, x1, x2, z0, z1, z2⟩ := hX3.cells
    have hXl := hX3.lt
    obtain ⟨hq, hg⟩ := b3_set hX3 xk xn xs
    have hb5 := HB3.out.grown hg HB3.out.size (fun q hq => by injection hq with hq; omega)
    clear hg
    go_wp2_with fail
    generalize ((w4.setCell ⟨w.heap.size, 0, none⟩ (.int .u8 (xk : Int))).setCell ⟨w.heap.size, 1, none⟩ (.int .i64 xn)).setCell ⟨w.heap.size, 2, none⟩ (.string xs) = w5 at *
    obtain ⟨v0, v1, v2, _, _, _⟩ := hq.cells
    refine bodyPost_ret (v := .tuple #[.agg #[.int .u8 (xk : Int), .int .i64 xn, .string xs], .int .i64 0]) (by simp [results, Tryz.results20, go_sem, v0, v1, v2]) rfl ⟨by rw [HE.out]; rfl, hb5⟩
  | inl p =>
    obtain ⟨T, W'⟩ := p
    obtain ⟨u, v, hev, hOT, hON⟩ := hRV
    obtain rfl : e = .returned (.tuple #[u, v, .agg #[.int .u8 0, .int .i64 0, .string ⟨#[]⟩], .bool true]) := hev
    dsimp only at hOT hON
    obtain ⟨W0, rfl⟩ := convR_last _ _ _ _ _ _ HR.out
    rw [List.dropLast_concat] at hON
    obtain ⟨ta, tc, rfl, hTT⟩ := hOT.isOf cellsT_len
    obtain ⟨wa0, wc, rfl, hW⟩ := hON.isOf cellsW_len
    obtain ⟨f1, f2, f3, f4⟩ := HF.out T (W0 ++ [1]) HR.out
    have f3 : ∀ t ∈ T, t.size ≤ 256 := fun t ht => (f3 t ht).resolve_left (by simp)
    have f4 : ∀ x ∈ W0 ++ [1], x ≤ 9223372036854775807 := fun x hx => (f4 x hx).resolve_left (by simp)
    have hnl := HNL.out
    have h1 : 2 ≤ T.length := by
      rw [f1, hnl]
      obtain rfl | rfl := (by omega : n = 2 ∨ n = 3)
      all_goals decide
    have hw9 : W0.length ≤ 16 := by
      have hc := Nat.le_trans (List.count_le_length (a := (110 : UInt8)) (l := List.take L.length [115, 115, 110])) (show _ ≤ 16 by rw [List.length_take]; exact Nat.le_trans (Nat.min_le_right _ _) (by decide))
      rw [List.length_append] at f2
      simp at f2
      omega
    have hn0 : n0 (W0 ++ [1]) ≤ 9223372036854775807 := by
      rcases last_or W0 with ⟨_, h⟩ | h
      · rw [h]; decide
      · exact f4 _ (by rw [List.mem_append]; exact .inl (mem_at h))
    have HE : Hid (resV 41 (convR [115, 115, 110] L [] []) = methV 41 T (W0 ++ [1])) := by unfold Hid; rw [HR.out]; rfl
    have l4 := valloc w3 (.cells #[.int .u8 0, .int .i64 0, .string ⟨#[]⟩] 25)
    have HX4 := Lib.hid (HX3.out.later l4)
    have HB4 := Lib.hid (vnext HB3.out l4)
    have HT4 := Lib.hid (hTT.later l4)
    have HW4 := Lib.hid (hW.later l4)
    have HV := Lib.hid (fun W (hX : Below w.heap.size w W) (hTT : IsT W ta T.length T) (hW : IsW W wa0 W0.length W0) => rv_41 ta wa0 T.length tc W0.length wc T W0 W hTT hW (g0 T) (g1 T) (g0_at (Nat.le_trans (by decide) h1)) (g1_at h1) (Nat.le_trans (f3 _ (mem_at (g0_at (Nat.le_trans (by decide) h1)))) (by decide)) (Nat.le_trans (f3 _ (mem_at (g1_at h1))) (by decide)) (n0 (W0 ++ [1])) hn0 (last_or W0) (by omega))
    clear l4 HX3 HB3 hOT hON hTT hW f1 f2 HF
    go_upto_region 8 with fail
    generalize w3.alloc (.cells #[.int .u8 0, .int .i64 0, .string ⟨#[]⟩] 25) = w4 at *
    obtain ⟨vv, hvv⟩ : ∃ vv, methV 41 T (W0 ++ [1]) = vv := ⟨_, rfl⟩
    have HV2 : Hid (∀ W, Below w.heap.size w W → IsT W ta T.length T → IsW W wa0 W0.length W0 → Calls Tryz.prog 55 #[.int .u8 41, .slice ta T.length tc, .slice wa0 W0.length wc] W fun e w' => e = .returned (vOf vv) ∧ Below W.heap.size W w') := by rw [← hvv]; exact HV.out
    rw [hvv] at HE
    obtain ⟨vk, vn, vs⟩ := vv
    unfold vOf at HV2
    dsimp only at HV2
    clear HV hvv f3 f4
    go_wp2_with fail
    refine (HV2.out _ HB4.out HT4.out  HW4.out).mono ?_
    rintro e w6 ⟨rfl, hB6⟩
    have hX3 := HX4.out.later hB6
    have HB3 := Lib.hid (vnext HB4.out hB6)
    clear hB6
    obtain ⟨x0, x1, x2, z0, z1, z2⟩ := hX3.cells
    have hXl := hX3.lt
    obtain ⟨hq, hg⟩ := b3_set hX3 vk vn vs
    have hb5 := HB3.out.grown hg HB3.out.size (fun q hq => by injection hq with hq; omega)
    clear hg
    go_wp2_with fail
    generalize ((w6.setCell ⟨w.heap.size, 0, none⟩ (.int .u8 (vk : Int))).setCell ⟨w.heap.size, 1, none⟩ (.int .i64 vn)).setCell ⟨w.heap.size, 2, none⟩ (.string vs) = w5 at *
    obtain ⟨v0, v1, v2, _, _, _⟩ := hq.cells
    refine bodyPost_ret (v := .tuple #[.agg #[.int .u8 (vk : Int), .int .i64 vn, .string vs], .int .i64 0]) (by simp [results, Tryz.results20, go_sem, v0, v1, v2]) rfl ⟨by rw [HE.out]; rfl, hb5⟩
set_option maxRecDepth 100000 in
set_option maxHeartbeats 6400000 in
theorem rcall_42 (a : Option Addr) (n cap : Nat) (L : List V3) (w : World) (hL : IsV w a n L) (hl : 1 ≤ n) (hn : n ≤ 1) (hv : ∀ v ∈ L, v.2.2.size ≤ 2000 ∧ InI v.2.1) (hb : okL L = true) (hT : Tb w) :
    Calls Tryz.prog 20 #[.int .u8 42, .slice a n cap] w fun e w' => e = .returned (.tuple #[vOf (resV 42 (convR [115] L [] [])), .int .i64 0]) ∧ Below w.heap.size w w' := by
  have HX : Hid (B3 (w.alloc (.cells #[.int .u8 0, .int .i64 0, .string ⟨#[]⟩] 25)) w.heap.size 0 0 ⟨#[]⟩) := B3.start w 0 0 ⟨#[]⟩
  have HB := Lib.hid (valloc w (.cells #[.int .u8 0, .int .i64 0, .string ⟨#[]⟩] 25))
  have HCN := Lib.hid (fun W => rcount_any 42 n (by omega) W rar_42)
  rw [decide_eq_true (show (arV 42).1 ≤ n ∧ n ≤ (arV 42).2 from ⟨hl, hn⟩)] at HCN
  have HVA := Lib.hid (fun W hW => rvalid_any a n cap L (by omega) W hW (fun v h => ⟨Nat.le_trans (hv v h).1 (by unfold maxLen; decide), by have := (hv v h).2; unfold InI at this; unfold leastI; omega⟩))
  have HL := Lib.hid hL
  rw [hb] at HVA
  have HT := Lib.hid hT
  have HCO := Lib.hid (fun W hW hT => rconvert_any 42 ⟨#[115]⟩ a n cap L W hW hn (by decide) (by decide) wh_42 hv hT)
  have HF := Lib.hid (fun T W' => convR_facts [115] L [] [] T W' (fun v h => (hv v h).2) (by decide))
  have HNL := Lib.hid hL.1
  rw [show (⟨#[115]⟩ : ByteArray).data.toList = [115] from rfl] at HCO
  obtain ⟨R, hR⟩ : ∃ R, convR [115] L [] [] = R := ⟨_, rfl⟩
  rw [hR] at HCO
  have HR := Lib.hid hR
  clear hL hv hT hR
  go_enter Tryz.func20, Tryz.ntmps20
  go_wp2_with fail
  generalize w.alloc (.cells #[.int .u8 0, .int .i64 0, .string ⟨#[]⟩] 25) = wa at *
  refine (HCN.out _).mono ?_
  rintro e w1 ⟨rfl, hB1⟩
  have HX1 := Lib.hid (HX.out.later hB1)
  have HB1 := Lib.hid (vnext HB.out hB1)
  clear hB1 HX HB
  go_wp2_with fail
  refine (HVA.out _ (IsOf.later HL.out HB1.out)).mono ?_
  rintro e w2 ⟨rfl, hB2⟩
  have HX2 := Lib.hid (HX1.out.later hB2)
  have HB2 := Lib.hid (vnext HB1.out hB2)
  clear hB2 HX1 HB1
  go_wp2_with fail
  refine (HCO.out _ (IsOf.later HL.out HB2.out) (HT.out.later HB2.out)).mono ?_
  rintro e w3 ⟨hRV, hB3⟩
  have HX3 := Lib.hid (HX2.out.later hB3)
  have HB3 := Lib.hid (vnext HB2.out hB3)
  clear hB3 HX2 HB2
  clear HCN HVA HCO HL
  cases R with
  | inr x =>
    obtain ⟨xk, xn, xs⟩ := x
    obtain rfl : e = .returned (.tuple #[.slice none 0 0, .slice none 0 0, .agg #[.int .u8 (xk : Int), .int .i64 xn, .string xs], .bool false]) := hRV
    have HE : Hid (resV 42 (convR [115] L [] []) = (xk, xn, xs)) := by unfold Hid; rw [HR.out]; rfl
    have HY := Lib.hid (B3.start w3 xk xn xs)
    have l4 := valloc w3 (.cells #[.int .u8 (xk : Int), .int .i64 xn, .string xs] 25)
    have HX4 := Lib.hid (HX3.out.later l4)
    have HB4 := Lib.hid (vnext HB3.out l4)
    clear l4 HX3 HB3
    go_upto_region 8 with fail
    generalize w3.alloc (.cells #[.int .u8 (xk : Int), .int .i64 xn, .string xs] 25) = w4 at *
    obtain ⟨y0, y1, y2, _, _, _⟩ := HY.out.cells
    have hyl := HY.out.lt
    have hX3 := HX4.out
    have HB3 := HB4
    obtain ⟨x0, x1, x2, z0, z1, z2⟩ := hX3.cells
    have hXl := hX3.lt
    obtain ⟨hq, hg⟩ := b3_set hX3 xk xn xs
    have hb5 := HB3.out.grown hg HB3.out.size (fun q hq => by injection hq with hq; omega)
    clear hg
    go_wp2_with fail
    generalize ((w4.setCell ⟨w.heap.size, 0, none⟩ (.int .u8 (xk : Int))).setCell ⟨w.heap.size, 1, none⟩ (.int .i64 xn)).setCell ⟨w.heap.size, 2, none⟩ (.string xs) = w5 at *
    obtain ⟨v0, v1, v2, _, _, _⟩ := hq.cells
    refine bodyPost_ret (v := .tuple #[.agg #[.int .u8 (xk : Int), .int .i64 xn, .string xs], .int .i64 0]) (by simp [results, Tryz.results20, go_sem, v0, v1, v2]) rfl ⟨by rw [HE.out]; rfl, hb5⟩
  | inl p =>
    obtain ⟨T, W'⟩ := p
    obtain ⟨u, v, hev, hOT, hON⟩ := hRV
    obtain rfl : e = .returned (.tuple #[u, v, .agg #[.int .u8 0, .int .i64 0, .string ⟨#[]⟩], .bool true]) := hev
    dsimp only at hOT hON
    obtain ⟨W0, rfl⟩ := convR_last _ _ _ _ _ _ HR.out
    rw [List.dropLast_concat] at hON
    obtain ⟨ta, tc, rfl, hTT⟩ := hOT.isOf cellsT_len
    obtain ⟨wa0, wc, rfl, hW⟩ := hON.isOf cellsW_len
    obtain ⟨f1, f2, f3, f4⟩ := HF.out T (W0 ++ [1]) HR.out
    have f3 : ∀ t ∈ T, t.size ≤ 256 := fun t ht => (f3 t ht).resolve_left (by simp)
    have f4 : ∀ x ∈ W0 ++ [1], x ≤ 9223372036854775807 := fun x hx => (f4 x hx).resolve_left (by simp)
    have hnl := HNL.out
    have h1 : 1 ≤ T.length := by
      rw [f1, hnl]
      obtain rfl := (by omega : n = 1)
      all_goals decide
    have hw9 : W0.length ≤ 16 := by
      have hc := Nat.le_trans (List.count_le_length (a := (110 : UInt8)) (l := List.take L.length [115])) (show _ ≤ 16 by rw [List.length_take]; exact Nat.le_trans (Nat.min_le_right _ _) (by decide))
      rw [List.length_append] at f2
      simp at f2
      omega
    have HE : Hid (resV 42 (convR [115] L [] []) = methV 42 T (W0 ++ [1])) := by unfold Hid; rw [HR.out]; rfl
    have l4 := valloc w3 (.cells #[.int .u8 0, .int .i64 0, .string ⟨#[]⟩] 25)
    have HX4 := Lib.hid (HX3.out.later l4)
    have HB4 := Lib.hid (vnext HB3.out l4)
    have HT4 := Lib.hid (hTT.later l4)
    have HW4 := Lib.hid (hW.later l4)
    have HV := Lib.hid (fun W (hX : Below w.heap.size w W) (hTT : IsT W ta T.length T) (hW : IsW W wa0 W0.length W0) => rv_42 ta wa0 T.length tc W0.length wc T W0 W hTT hW (g0 T) (g0_at h1) (f3 _ (mem_at (g0_at h1))) (HT.out.later hX))
    clear l4 HX3 HB3 hOT hON hTT hW f1 f2 HF
    go_upto_region 8 with fail
    generalize w3.alloc (.cells #[.int .u8 0, .int .i64 0, .string ⟨#[]⟩] 25) = w4 at *
    obtain ⟨vv, hvv⟩ : ∃ vv, methV 42 T (W0 ++ [1]) = vv := ⟨_, rfl⟩
    have HV2 : Hid (∀ W, Below w.heap.size w W → IsT W ta T.length T → IsW W wa0 W0.length W0 → Calls Tryz.prog 55 #[.int .u8 42, .slice ta T.length tc, .slice wa0 W0.length wc] W fun e w' => e = .returned (vOf vv) ∧ Below W.heap.size W w') := by rw [← hvv]; exact HV.out
    rw [hvv] at HE
    obtain ⟨vk, vn, vs⟩ := vv
    unfold vOf at HV2
    dsimp only at HV2
    clear HV hvv f3 f4
    go_wp2_with fail
    refine (HV2.out _ HB4.out HT4.out  HW4.out).mono ?_
    rintro e w6 ⟨rfl, hB6⟩
    have hX3 := HX4.out.later hB6
    have HB3 := Lib.hid (vnext HB4.out hB6)
    clear hB6
    obtain ⟨x0, x1, x2, z0, z1, z2⟩ := hX3.cells
    have hXl := hX3.lt
    obtain ⟨hq, hg⟩ := b3_set hX3 vk vn vs
    have hb5 := HB3.out.grown hg HB3.out.size (fun q hq => by injection hq with hq; omega)
    clear hg
    go_wp2_with fail
    generalize ((w6.setCell ⟨w.heap.size, 0, none⟩ (.int .u8 (vk : Int))).setCell ⟨w.heap.size, 1, none⟩ (.int .i64 vn)).setCell ⟨w.heap.size, 2, none⟩ (.string vs) = w5 at *
    obtain ⟨v0, v1, v2, _, _, _⟩ := hq.cells
    refine bodyPost_ret (v := .tuple #[.agg #[.int .u8 (vk : Int), .int .i64 vn, .string vs], .int .i64 0]) (by simp [results, Tryz.results20, go_sem, v0, v1, v2]) rfl ⟨by rw [HE.out]; rfl, hb5⟩
end Go.Proofs.YtfjefanhkbcfgaaGreatDoor.Va
