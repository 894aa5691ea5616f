/- The reference's repeat and find. -/
import Derived.Test.YtfjefanhkbcfgaaGreatDoorFuC
namespace Go.Proofs.YtfjefanhkbcfgaaGreatDoor.Va
open Go Go.RowKit GM
set_option linter.unusedVariables false
set_option linter.unusedSimpArgs false
theorem repS_zero (s : ByteArray) : repS s 0 = ⟨#[]⟩ := by unfold repS; simp [Lib.repeatL]
theorem repL_snoc (l : List UInt8) : ∀ k, Lib.repeatL l (k + 1) = Lib.repeatL l k ++ l
  | 0 => by simp [Lib.repeatL]
  | k + 1 => by
    have e : Lib.repeatL l (k + 1 + 1) = l ++ Lib.repeatL l (k + 1) := rfl
    have e2 : Lib.repeatL l (k + 1) = l ++ Lib.repeatL l k := rfl
    rw [e, repL_snoc l k, ← List.append_assoc, ← e2, repL_snoc l k]
theorem repS_succ (s : ByteArray) (k : Nat) : repS s k ++ s = repS s (k + 1) := by
  apply ba_ext
  unfold repS
  rw [repL_snoc]
  simp
theorem repS_size (s : ByteArray) : ∀ k, (repS s k).size = k * s.size
  | 0 => by rw [repS_zero, Nat.zero_mul]; rfl
  | k + 1 => by rw [← repS_succ, ByteArray.size_append, repS_size s k, Nat.add_mul, Nat.one_mul]
theorem repS_nil (k : Nat) : repS ⟨#[]⟩ k = ⟨#[]⟩ := by
  apply ba_ext
  unfold repS
  exact repL_nil k
theorem rept_nil {n : Int} (h0 : 0 ≤ n) : reptV ⟨#[]⟩ n = txV ⟨#[]⟩ := by
  unfold reptV
  rw [if_neg (by simp; omega), repS_nil]
theorem rept_long {s : ByteArray} {n : Int} {k : Nat} (h : (k : Int) < n) (hs : s ≠ ⟨#[]⟩) (hz : 256 < (repS s (k + 1)).size) : reptV s n = txV (repS s (k + 1)) := by
  have e1 : txV (repS s (k + 1)) = badV := if_pos hz
  rw [e1]
  unfold reptV
  by_cases hn : 256 < n
  · rw [if_pos (.inr ⟨hs, hn⟩)]
  · rw [if_neg (by omega)]
    refine if_pos ?_
    rw [repS_size] at *
    have : (k + 1) * s.size ≤ (min n 256).toNat * s.size := Nat.mul_le_mul_right _ (by omega)
    omega
set_option maxRecDepth 100000 in
set_option maxHeartbeats 6400000 in
theorem rrept_any (s : ByteArray) (n : Int) (hn : n ≤ 9223372036854775807) (hs : s.size ≤ 4096) (w : World) : Calls Tryz.prog 123 #[.string s, .int .i64 n] w fun e w' => e = .returned (vOf (reptV s n)) ∧ Below w.heap.size w w' := by
  have HX : Hid (B3 (w.alloc (.cells #[.int .u8 0, .int .i64 0, .string ⟨#[]⟩] 25)) w.heap.size 0 0 ⟨#[]⟩) := B3.start w 0 0 ⟨#[]⟩
  have HB := Lib.hid (valloc w (.cells #[.int .u8 0, .int .i64 0, .string ⟨#[]⟩] 25))
  go_enter Tryz.func123, Tryz.ntmps123
  by_cases h0 : n < 0
  · have HE : Hid (reptV s n = badV) := if_pos (.inl h0)
    go_wp2_with fail
    generalize w.alloc (.cells #[.int .u8 0, .int .i64 0, .string ⟨#[]⟩] 25) = wa at *
    refine (rfail_any 2 _).mono ?_
    rw [show flN 2 = 2 from rfl]
    rintro e w1 ⟨rfl, hB⟩
    have hX : B3 w1 w.heap.size 0 0 ⟨#[]⟩ := HX.out.later hB
    have HBW := Lib.hid (vnext HB.out hB)
    obtain ⟨x0, x1, x2, z0, z1, z2⟩ := hX.cells
    have hXl := hX.lt
    obtain ⟨hq, hg⟩ := b3_set hX 4 2 ⟨#[]⟩
    have hb5 := HBW.out.grown hg HBW.out.size (fun q hq => by injection hq with hq; omega)
    clear hB hg
    go_wp2_with fail
    generalize ((w1.setCell ⟨w.heap.size, 0, none⟩ (.int .u8 4)).setCell ⟨w.heap.size, 1, none⟩ (.int .i64 2)).setCell ⟨w.heap.size, 2, none⟩ (.string ⟨#[]⟩) = w5 at *
    obtain ⟨y0, y1, y2, _, _, _⟩ := hq.cells
    refine bodyPost_ret (v := .agg #[.int .u8 4, .int .i64 2, .string ⟨#[]⟩]) (by simp [results, Tryz.results123, go_sem, y0, y1, y2]) rfl ⟨by rw [HE.out]; rfl, hb5⟩
  go_wp2_with fail
  generalize w.alloc (.cells #[.int .u8 0, .int .i64 0, .string ⟨#[]⟩] 25) = wa at *
  go_loopw [5, 6] (fun u i wr => ∃ k : Nat, (k : Int) ≤ n ∧ k ≤ 256 ∧ u = .string (repS s k) ∧ i = .int .i64 (k : Int) ∧ Hid ((repS s k).size ≤ 256) ∧ wr = wa) (fun _ i _ => 300 - (intOf i).toNat)
  case atStart => exact ⟨0, by omega, by omega, by rw [repS_zero], rfl, by rw [repS_zero]; exact Nat.zero_le _, rfl⟩
  case round =>
    obtain ⟨k, hk, hk2, rfl, rfl, HZ, rfl⟩ := hrel
    by_cases hlt : (k : Int) < n
    · have d1 : decide ((k : Int) < n) = true := decide_eq_true hlt
      rcases empty_or s with rfl | ⟨he1, he2⟩
      · have HE : Hid (reptV ⟨#[]⟩ n = txV ⟨#[]⟩) := rept_nil (by omega)
        have HQ := repS_nil k
        rw [HQ]
        clear HQ
        go_wp2_with fail
        have HV := Lib.hid (fun W => rtext_any ⟨#[]⟩ W)
        generalize hvv : txV ⟨#[]⟩ = vv at HV
        have HVV := Lib.hid hvv
        clear hvv
        obtain ⟨vk, vn, vs⟩ := vv
        unfold vOf at HV
        dsimp only at HV
        refine (HV.out _).mono ?_
        rintro e w1 ⟨rfl, hB⟩
        have hX : B3 w1 w.heap.size 0 0 ⟨#[]⟩ := HX.out.later hB
        have HBW := Lib.hid (vnext HB.out hB)
        obtain ⟨x0, x1, x2, z0, z1, z2⟩ := hX.cells
        have hXl := hX.lt
        obtain ⟨hq, hg⟩ := b3_set hX vk vn vs
        have hb5 := HBW.out.grown hg HBW.out.size (fun q hq => by injection hq with hq; omega)
        clear hB hg
        go_wp2_with fail
        generalize ((w1.setCell ⟨w.heap.size, 0, none⟩ (.int .u8 (vk : Int))).setCell ⟨w.heap.size, 1, none⟩ (.int .i64 vn)).setCell ⟨w.heap.size, 2, none⟩ (.string vs) = w5 at *
        obtain ⟨y0, y1, y2, _, _, _⟩ := hq.cells
        refine bodyPost_ret (v := .agg #[.int .u8 (vk : Int), .int .i64 vn, .string vs]) (by simp [results, Tryz.results123, go_sem, y0, y1, y2]) rfl ⟨by rw [HE.out, HVV.out]; rfl, hb5⟩
      · have hne : s ≠ ⟨#[]⟩ := by rintro rfl; simp at he1
        have hz1 : 1 ≤ s.size := by
          rcases Nat.eq_zero_or_pos s.size with h | h
          · exact absurd (ba_ext (List.eq_nil_of_length_eq_zero ((dlen s).trans h))) hne
          · exact h
        have HZS := Lib.hid (repS_size s (k + 1))
        have HL := Lib.hid (fun h => rept_long (s := s) (n := n) (k := k) hlt hne h)
        have hadd := fun W => run_string_add_sum (P := Tryz.prog) W (repS s k) s (by have := HZ.out; omega)
        have hk3 : k + 1 ≤ 256 ∨ 256 < (repS s (k + 1)).size := by
          by_cases h : k + 1 ≤ 256
          · exact .inl h
          · right
            rw [HZS.out]
            have : (k + 1) * 1 ≤ (k + 1) * s.size := Nat.mul_le_mul_left _ hz1
            omega
        rw [repS_succ] at hadd
        obtain ⟨R, HR⟩ : ∃ R, Hid (repS s (k + 1) = R) := ⟨_, rfl⟩
        rw [HR.out] at hadd HL hk3 HZS
        by_cases h4 : 256 < R.size
        · have HE := Lib.hid (HL.out h4)
          clear HL hk3
          go_wp2_with fail
          have HV := Lib.hid (fun W => rtext_any R W)
          generalize hvv : txV R = vv at HV
          have HVV := Lib.hid hvv
          clear hvv
          obtain ⟨vk, vn, vs⟩ := vv
          unfold vOf at HV
          dsimp only at HV
          refine (HV.out _).mono ?_
          rintro e w1 ⟨rfl, hB⟩
          have hX : B3 w1 w.heap.size 0 0 ⟨#[]⟩ := HX.out.later hB
          have HBW := Lib.hid (vnext HB.out hB)
          obtain ⟨x0, x1, x2, z0, z1, z2⟩ := hX.cells
          have hXl := hX.lt
          obtain ⟨hq, hg⟩ := b3_set hX vk vn vs
          have hb5 := HBW.out.grown hg HBW.out.size (fun q hq => by injection hq with hq; omega)
          clear hB hg
          go_wp2_with fail
          generalize ((w1.setCell ⟨w.heap.size, 0, none⟩ (.int .u8 (vk : Int))).setCell ⟨w.heap.size, 1, none⟩ (.int .i64 vn)).setCell ⟨w.heap.size, 2, none⟩ (.string vs) = w5 at *
          obtain ⟨y0, y1, y2, _, _, _⟩ := hq.cells
          refine bodyPost_ret (v := .agg #[.int .u8 (vk : Int), .int .i64 vn, .string vs]) (by simp [results, Tryz.results123, go_sem, y0, y1, y2]) rfl ⟨by rw [HE.out, HVV.out]; rfl, hb5⟩
        · have HZN : Hid (R.size ≤ 256) := by unfold Hid; omega
          have hk4 : k + 1 ≤ 256 := hk3.resolve_right h4
          clear HL hk3 HZS
          go_wp2_with fail
          exact ⟨⟨k + 1, by omega, hk4, by rw [HR.out], by go_num, by unfold Hid; rw [HR.out]; exact HZN.out, trivial⟩, by simp [intOf]; omega⟩
    · have hkn : k = n.toNat := by omega
      have d1 : decide ((k : Int) < n) = false := decide_eq_false hlt
      have HE : Hid (reptV s n = txV (repS s k)) := by
        unfold Hid
        rw [hkn]
        refine rept_ref (by omega) ?_
        have h1 := HZ.out
        rw [repS_size] at h1
        rw [show n = (k : Int) by omega, Int.mul_comm]
        exact_mod_cast h1
      have HSZ := Lib.hid (repS_size s k)
      generalize repS s k = R at *
      clear hkn hk hlt
      go_wp2_with fail
      have HV := Lib.hid (fun W => rtext_any R W)
      generalize hvv : txV R = vv at HV
      have HVV := Lib.hid hvv
      clear hvv
      obtain ⟨vk, vn, vs⟩ := vv
      unfold vOf at HV
      dsimp only at HV
      refine (HV.out _).mono ?_
      rintro e w1 ⟨rfl, hB⟩
      have hX : B3 w1 w.heap.size 0 0 ⟨#[]⟩ := HX.out.later hB
      have HBW := Lib.hid (vnext HB.out hB)
      obtain ⟨x0, x1, x2, z0, z1, z2⟩ := hX.cells
      have hXl := hX.lt
      obtain ⟨hq, hg⟩ := b3_set hX vk vn vs
      have hb5 := HBW.out.grown hg HBW.out.size (fun q hq => by injection hq with hq; omega)
      clear hB hg
      go_wp2_with fail
      generalize ((w1.setCell ⟨w.heap.size, 0, none⟩ (.int .u8 (vk : Int))).setCell ⟨w.heap.size, 1, none⟩ (.int .i64 vn)).setCell ⟨w.heap.size, 2, none⟩ (.string vs) = w5 at *
      obtain ⟨y0, y1, y2, _, _, _⟩ := hq.cells
      refine bodyPost_ret (v := .agg #[.int .u8 (vk : Int), .int .i64 vn, .string vs]) (by simp [results, Tryz.results123, go_sem, y0, y1, y2]) rfl ⟨by rw [HE.out, HVV.out]; rfl, hb5⟩
theorem mk_pos {k : Int} (h : 0 ≤ k) : mkK (k * 10000) = 1 ∧ mkN (k * 10000) = k * 10000 := by
  have h : ¬ k * 10000 = leastI := by unfold leastI; omega
  exact ⟨if_neg h, if_neg h⟩
set_option maxHeartbeats 6400000 in
theorem rfind_any (s t : ByteArray) (f : Int) (hf : f ≤ 9223372036854775807) (hs : s.size ≤ 4096) (ht : t.size ≤ 4096) (w : World) : Calls Tryz.prog 124 #[.string s, .string t, .int .i64 f] w fun e w' => e = .returned (vOf (findV s t f)) ∧ Below w.heap.size w w' := by
  have HX : Hid (B3 (w.alloc (.cells #[.int .u8 0, .int .i64 0, .string ⟨#[]⟩] 25)) w.heap.size 0 0 ⟨#[]⟩) := B3.start w 0 0 ⟨#[]⟩
  have HB := Lib.hid (valloc w (.cells #[.int .u8 0, .int .i64 0, .string ⟨#[]⟩] 25))
  go_enter Tryz.func124, Tryz.ntmps124
  by_cases h0 : f < 1
  · have HE : Hid (findV s t f = badV) := findV_none (.inl h0)
    go_wp2_with fail
    generalize w.alloc (.cells #[.int .u8 0, .int .i64 0, .string ⟨#[]⟩] 25) = wa at *
    refine (rfail_any 2 _).mono ?_
    rw [show flN 2 = 2 from rfl]
    rintro e w1 ⟨rfl, hB⟩
    have hX : B3 w1 w.heap.size 0 0 ⟨#[]⟩ := HX.out.later hB
    have HBW := Lib.hid (vnext HB.out hB)
    obtain ⟨x0, x1, x2, z0, z1, z2⟩ := hX.cells
    have hXl := hX.lt
    obtain ⟨hq, hg⟩ := b3_set hX 4 2 ⟨#[]⟩
    have hb5 := HBW.out.grown hg HBW.out.size (fun q hq => by injection hq with hq; omega)
    clear hB hg
    go_wp2_with fail
    generalize ((w1.setCell ⟨w.heap.size, 0, none⟩ (.int .u8 4)).setCell ⟨w.heap.size, 1, none⟩ (.int .i64 2)).setCell ⟨w.heap.size, 2, none⟩ (.string ⟨#[]⟩) = w5 at *
    obtain ⟨y0, y1, y2, _, _, _⟩ := hq.cells
    refine bodyPost_ret (v := .agg #[.int .u8 4, .int .i64 2, .string ⟨#[]⟩]) (by simp [results, Tryz.results124, go_sem, y0, y1, y2]) rfl ⟨by rw [HE.out]; rfl, hb5⟩
  have hw1 : IntKind.i64.wrap ((t.size : Int) - (s.size : Int)) = (t.size : Int) - (s.size : Int) := IntWalk.i64_in _ (by omega)
  have hw2 : IntKind.i64.wrap ((t.size : Int) - (s.size : Int) + 1) = (t.size : Int) - (s.size : Int) + 1 := IntWalk.i64_in _ (by omega)
  go_wp2_with fail
  generalize w.alloc (.cells #[.int .u8 0, .int .i64 0, .string ⟨#[]⟩] 25) = wa at *
  go_loopw [7] (fun i wr => ∃ k : Int, i = .int .i64 k ∧ f ≤ k ∧ (k = f ∨ k ≤ 5000) ∧ Hid (fstP s.data.toList t.data.toList f = fstP s.data.toList t.data.toList k) ∧ wr = wa) (fun i _ => ((t.size : Int) - s.size + 2 - (match i with | .int _ n => n | _ => 0)).toNat)
  case atStart => exact ⟨f, rfl, Int.le_refl _, .inl rfl, rfl, rfl⟩
  case round =>
    obtain ⟨k, rfl, hk1, hk2, HF, rfl⟩ := hrel
    by_cases hlt : k ≤ (t.size : Int) - s.size + 1
    · have d1 : decide (k ≤ (t.size : Int) - (s.size : Int) + 1) = true := decide_eq_true hlt
      obtain ⟨p, hp⟩ : ∃ p : Nat, k - 1 = p := ⟨(k - 1).toNat, by omega⟩
      have hw3 : IntKind.i64.wrap (k - 1) = (p : Int) := by rw [← hp]; exact IntWalk.i64_in _ (by omega)
      have hw4 : IntKind.i64.wrap ((p : Int) + (s.size : Int)) = (p : Int) + (s.size : Int) := IntWalk.i64_in _ (by omega)
      have hb1 : p + s.size ≤ t.size := by omega
      have HX9 : Hid ((t.data.toList.drop (k - 1).toNat).take s.size = (t.extract p (p + s.size)).data.toList) := by
        unfold Hid
        rw [ext_data, show (k - 1).toNat = p by omega, show p + s.size - p = s.size by omega]
      have HIT := Lib.hid (fun (h : (t.data.toList.drop (k - 1).toNat).take s.size = s.data.toList) => find_hit (s := s) (t := t) (f := f) (k := k) (by omega) (by omega) hlt HF.out h)
      have HMS := Lib.hid (fun (h : ¬ (t.data.toList.drop (k - 1).toNat).take s.size = s.data.toList) => fstP_up (X := s.data.toList) (Y := t.data.toList) (f := f) (k := k) (by omega) (by rw [dlen, dlen]; exact hlt) HF.out (by rw [dlen]; exact h))
      rw [HX9.out] at HIT HMS
      have hel := tl_eq (t.extract p (p + s.size)) s
      clear hp
      have hk5 : k ≤ 4097 := by omega
      by_cases he : t.extract p (p + s.size) = s
      · have HE := Lib.hid (HIT.out (by rw [he]))
        rw [decide_eq_true he] at hel
        obtain ⟨m1, m2⟩ := mk_pos (k := k) (by omega)
        have HM1 := Lib.hid m1
        have HM2 := Lib.hid m2
        have hw5 : IntKind.i64.wrap (k * 10000) = k * 10000 := IntWalk.i64_in _ (by omega)
        have HMK := Lib.hid (fun W => rmake_any (k * 10000) (by unfold leastI; omega) W)
        rw [HM1.out, HM2.out] at HMK
        clear m1 m2 HIT HMS he
        go_wp2_with fail
        refine (HMK.out _).mono ?_
        rintro e w1 ⟨rfl, hB⟩
        have hX : B3 w1 w.heap.size 0 0 ⟨#[]⟩ := HX.out.later hB
        have HBW := Lib.hid (vnext HB.out hB)
        obtain ⟨x0, x1, x2, z0, z1, z2⟩ := hX.cells
        have hXl := hX.lt
        obtain ⟨hq, hg⟩ := b3_set hX 1 (k * 10000) ⟨#[]⟩
        have hb5 := HBW.out.grown hg HBW.out.size (fun q hq => by injection hq with hq; omega)
        clear hB hg
        go_wp2_with fail
        generalize ((w1.setCell ⟨w.heap.size, 0, none⟩ (.int .u8 1)).setCell ⟨w.heap.size, 1, none⟩ (.int .i64 (k * 10000))).setCell ⟨w.heap.size, 2, none⟩ (.string ⟨#[]⟩) = w5 at *
        obtain ⟨y0, y1, y2, _, _, _⟩ := hq.cells
        refine bodyPost_ret (v := .agg #[.int .u8 1, .int .i64 (k * 10000), .string ⟨#[]⟩]) (by simp [results, Tryz.results124, go_sem, y0, y1, y2]) rfl ⟨by rw [HE.out]; rfl, hb5⟩
      · have HN := Lib.hid (HMS.out (fun h => he (ba_ext h)))
        rw [decide_eq_false he] at hel
        have hw5 : IntKind.i64.wrap (k + 1) = k + 1 := IntWalk.i64_in _ (by omega)
        clear HIT HMS he
        go_wp2_with fail
        exact ⟨⟨k + 1, by go_num, by omega, .inr (by omega), HN.out, trivial⟩, by simp; omega⟩
    · have d1 : decide (k ≤ (t.size : Int) - (s.size : Int) + 1) = false := decide_eq_false hlt
      have HE : Hid (findV s t f = badV) := find_end (by omega) HF.out
      go_wp2_with fail
      refine (rfail_any 2 _).mono ?_
      rw [show flN 2 = 2 from rfl]
      rintro e w1 ⟨rfl, hB⟩
      have hX : B3 w1 w.heap.size 0 0 ⟨#[]⟩ := HX.out.later hB
      have HBW := Lib.hid (vnext HB.out hB)
      obtain ⟨x0, x1, x2, z0, z1, z2⟩ := hX.cells
      have hXl := hX.lt
      obtain ⟨hq, hg⟩ := b3_set hX 4 2 ⟨#[]⟩
      have hb5 := HBW.out.grown hg HBW.out.size (fun q hq => by injection hq with hq; omega)
      clear hB hg
      go_wp2_with fail
      generalize ((w1.setCell ⟨w.heap.size, 0, none⟩ (.int .u8 4)).setCell ⟨w.heap.size, 1, none⟩ (.int .i64 2)).setCell ⟨w.heap.size, 2, none⟩ (.string ⟨#[]⟩) = w5 at *
      obtain ⟨y0, y1, y2, _, _, _⟩ := hq.cells
      refine bodyPost_ret (v := .agg #[.int .u8 4, .int .i64 2, .string ⟨#[]⟩]) (by simp [results, Tryz.results124, go_sem, y0, y1, y2]) rfl ⟨by rw [HE.out]; rfl, hb5⟩
end Go.Proofs.YtfjefanhkbcfgaaGreatDoor.Va
