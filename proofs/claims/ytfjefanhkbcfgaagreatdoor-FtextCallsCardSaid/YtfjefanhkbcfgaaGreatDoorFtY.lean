/- Merged: FtO FtP FtQ FtR FtS FtU. -/
import Derived.Test.YtfjefanhkbcfgaaGreatDoorFtC
import Derived.Test.YtfjefanhkbcfgaaGreatDoorGlyphD
import Derived.Test.YtfjefanhkbcfgaaGreatDoorValZn
import Derived.Test.YtfjefanhkbcfgaaGreatDoorMgk
/- ftext: the methods trim and value. -/
namespace Go.Proofs.YtfjefanhkbcfgaaGreatDoor.Va
open Go Go.RowKit GM
set_option linter.unusedVariables false
set_option linter.unusedSimpArgs false
def trimS (s : ByteArray) : ByteArray := str (trim s.data.toList)
set_option maxHeartbeats 3200000 in
theorem m_trim (ta wa : Option Addr) (tn tc wn wc : Nat) (T : List ByteArray) (W0 : List Int) (w : World) (hT : IsT w ta tn T) (hW : IsW w wa wn W0) (s : ByteArray) (h0 : T[0]? = some s) (hs : s.size ≤ 4000) :
    Calls Tryz.prog 111 #[.agg #[.slice ta tn tc, .slice wa wn wc]] w fun e w' => e = .returned (vOf (txV (trimS s))) ∧ Below w.heap.size w w' := by
  have l1 := valloc w (.cells #[.slice ta tn tc, .slice wa wn wc] 62)
  have l2 := valloc (w.alloc (.cells #[.slice ta tn tc, .slice wa wn wc] 62)) (.cells #[.int .u8 0, .int .i64 0, .string ⟨#[]⟩] 25)
  have hX := B3.start (w.alloc (.cells #[.slice ta tn tc, .slice wa wn wc] 62)) 0 0 ⟨#[]⟩
  rw [World.size_alloc] at hX
  have HX : Hid (B3 ((w.alloc (.cells #[.slice ta tn tc, .slice wa wn wc] 62)).alloc (.cells #[.int .u8 0, .int .i64 0, .string ⟨#[]⟩] 25)) (w.heap.size + 1) 0 0 ⟨#[]⟩) := hX
  have HB := Lib.hid (vnext l1 l2)
  obtain ⟨nt0, bt0, ot0, ea0, lt0, ct0⟩ := isT_at hT h0
  rw [Nat.add_zero] at ct0
  clear hX l1 l2 hT hW
  go_enter Tryz.func111, Tryz.ntmps111
  subst ea0
  go_wp2_with fail
  refine (trim_any s hs _).mono ?_
  rintro e w2 ⟨rfl, hB2⟩
  have HX2 := Lib.hid (HX.out.later hB2)
  have HB2 := Lib.hid (vnext HB.out hB2)
  clear hB2 HX HB
  have HX := HX2
  have HB := HB2
  clear HX2 HB2
  rw [show str (trim s.data.toList) = trimS s from rfl]
  go_wp2_with fail
  have HV := Lib.hid (fun W => ftext_any (trimS s) W)
  generalize hvv : txV (trimS s) = vv at HV
  have HVV := Lib.hid hvv
  clear hvv
  obtain ⟨vk, vn, vs⟩ := vv
  unfold vOf at HV
  dsimp only at HV
  refine (HV.out _).mono ?_
  rintro e w1 ⟨rfl, hB⟩
  have hX : B3 w1 (w.heap.size + 1) 0 0 ⟨#[]⟩ := HX.out.later hB
  have HBW := Lib.hid (vnext HB.out hB)
  obtain ⟨x0, x1, x2, z0, z1, z2⟩ := hX.cells
  have hXl := hX.lt
  obtain ⟨hq, hg⟩ := b3_set hX vk vn vs
  have hb5 := HBW.out.grown hg HBW.out.size (fun q hq => by injection hq with hq; omega)
  clear hB hg
  go_wp2_with fail
  generalize ((w1.setCell ⟨(w.heap.size + 1), 0, none⟩ (.int .u8 (vk : Int))).setCell ⟨(w.heap.size + 1), 1, none⟩ (.int .i64 vn)).setCell ⟨(w.heap.size + 1), 2, none⟩ (.string vs) = w5 at *
  obtain ⟨y0, y1, y2, _, _, _⟩ := hq.cells
  refine bodyPost_ret (v := .agg #[.int .u8 (vk : Int), .int .i64 vn, .string vs]) (by simp [results, Tryz.results111, go_sem, y0, y1, y2]) rfl ⟨by rw [HVV.out]; rfl, hb5⟩
theorem txV_sz (s : ByteArray) : (txV s).2.2.size ≤ 2000 ∧ InI (txV s).2.1 := by
  unfold txV badV
  split
  · exact ⟨by decide, by unfold InI; decide⟩
  · exact ⟨by simp only; omega, by unfold InI; simp only; omega⟩
set_option maxHeartbeats 3200000 in
theorem m_value (ta wa : Option Addr) (tn tc wn wc : Nat) (T : List ByteArray) (W0 : List Int) (w : World) (hT : IsT w ta tn T) (hW : IsW w wa wn W0) (s : ByteArray) (h0 : T[0]? = some s) (hTb : Tb w) :
    Calls Tryz.prog 116 #[.agg #[.slice ta tn tc, .slice wa wn wc]] w fun e w' => e = .returned (vOf (cvR 1 (txV s).1 (txV s).2.1 (txV s).2.2)) ∧ Below w.heap.size w w' := by
  have l1 := valloc w (.cells #[.slice ta tn tc, .slice wa wn wc] 62)
  have l2 := valloc (w.alloc (.cells #[.slice ta tn tc, .slice wa wn wc] 62)) (.cells #[.int .u8 0, .int .i64 0, .string ⟨#[]⟩] 25)
  have hX := B3.start (w.alloc (.cells #[.slice ta tn tc, .slice wa wn wc] 62)) 0 0 ⟨#[]⟩
  rw [World.size_alloc] at hX
  have HX : Hid (B3 ((w.alloc (.cells #[.slice ta tn tc, .slice wa wn wc] 62)).alloc (.cells #[.int .u8 0, .int .i64 0, .string ⟨#[]⟩] 25)) (w.heap.size + 1) 0 0 ⟨#[]⟩) := hX
  have HB := Lib.hid (vnext l1 l2)
  obtain ⟨nt0, bt0, ot0, ea0, lt0, ct0⟩ := isT_at hT h0
  rw [Nat.add_zero] at ct0
  clear hX l1 l2 hT hW
  go_enter Tryz.func116, Tryz.ntmps116
  subst ea0
  go_wp2_with fail
  have HTB := Lib.hid hTb
  clear hTb
  obtain ⟨z1, z2⟩ := txV_sz s
  have HTN := Lib.hid (fun W (hW : Below w.heap.size w W) => vto_num (txV s).1 (txV s).2.1 (txV s).2.2 z1 z2 W (HTB.out.later hW))
  have HTX := Lib.hid (fun W => ftext_any s W)
  clear z1 z2
  obtain ⟨rr, hr⟩ : ∃ r, cvR 1 (txV s).1 (txV s).2.1 (txV s).2.2 = r := ⟨_, rfl⟩
  rw [hr] at HTN
  have HRR := Lib.hid hr
  clear hr
  generalize txV s = vv at HTN HTX
  obtain ⟨vk, vn, vs⟩ := vv
  unfold vOf at HTX
  refine (HTX.out _).mono ?_
  rintro e w2 ⟨rfl, hB2⟩
  have HX2 := Lib.hid (HX.out.later hB2)
  have HB2 := Lib.hid (vnext HB.out hB2)
  clear hB2 HX HB HTX
  have HX := HX2
  have HB := HB2
  clear HX2 HB2
  go_wp2_with fail
  have HV := Lib.hid (fun W (hW : Below w.heap.size w W) => HTN.out W hW)
  generalize hvv : rr = vv at HV
  have HVV := Lib.hid hvv
  clear hvv
  obtain ⟨vk, vn, vs⟩ := vv
  dsimp only at HV
  refine (HV.out _ HB.out).mono ?_
  rintro e w1 ⟨rfl, hB⟩
  have hX : B3 w1 (w.heap.size + 1) 0 0 ⟨#[]⟩ := HX.out.later hB
  have HBW := Lib.hid (vnext HB.out hB)
  obtain ⟨x0, x1, x2, z0, z1, z2⟩ := hX.cells
  have hXl := hX.lt
  obtain ⟨hq, hg⟩ := b3_set hX vk vn vs
  have hb5 := HBW.out.grown hg HBW.out.size (fun q hq => by injection hq with hq; omega)
  clear hB hg
  go_wp2_with fail
  generalize ((w1.setCell ⟨(w.heap.size + 1), 0, none⟩ (.int .u8 (vk : Int))).setCell ⟨(w.heap.size + 1), 1, none⟩ (.int .i64 vn)).setCell ⟨(w.heap.size + 1), 2, none⟩ (.string vs) = w5 at *
  obtain ⟨y0, y1, y2, _, _, _⟩ := hq.cells
  refine bodyPost_ret (v := .agg #[.int .u8 (vk : Int), .int .i64 vn, .string vs]) (by simp [results, Tryz.results116, go_sem, y0, y1, y2]) rfl ⟨by rw [HRR.out, HVV.out]; rfl, hb5⟩
end Go.Proofs.YtfjefanhkbcfgaaGreatDoor.Va
/- ftext.Call where it answers by an error number. -/
namespace Go.Proofs.YtfjefanhkbcfgaaGreatDoor.Va
open Go Go.RowKit GM
set_option linter.unusedVariables false
set_option linter.unusedSimpArgs false
set_option maxHeartbeats 3200000 in
theorem call_name (fn : Nat) (hf : fn < 31 ∨ 42 < fn) (a : Option Addr) (n cap : Nat) (w : World) :
    Calls Tryz.prog 19 #[.int .u8 (fn : Int), .slice a n cap] w fun e w' => e = .returned (.tuple #[.agg #[.int .u8 0, .int .i64 0, .string ⟨#[]⟩], .int .i64 10]) ∧ Below w.heap.size w w' := by
  have hB := valloc w (.cells #[.int .u8 0, .int .i64 0, .string ⟨#[]⟩] 25)
  obtain ⟨x0, x1, x2, _, _, _⟩ := (B3.start w 0 0 ⟨#[]⟩).cells
  by_cases h1 : fn < 31
  · have d1 : decide ((fn : Int) < 31) = true := by simp; omega
    go_enter Tryz.func19, Tryz.ntmps19
    go_wp2_with fail
    refine bodyPost_ret (v := .tuple #[.agg #[.int .u8 0, .int .i64 0, .string ⟨#[]⟩], .int .i64 10]) (by simp [results, Tryz.results19, go_sem]) rfl ⟨rfl, hB⟩
  · have d1 : decide ((fn : Int) < 31) = false := by simp; omega
    have d2 : decide ((42 : Int) < (fn : Int)) = true := by simp; omega
    go_enter Tryz.func19, Tryz.ntmps19
    go_wp2_with fail
    refine bodyPost_ret (v := .tuple #[.agg #[.int .u8 0, .int .i64 0, .string ⟨#[]⟩], .int .i64 10]) (by simp [results, Tryz.results19, go_sem]) rfl ⟨rfl, hB⟩
set_option maxHeartbeats 3200000 in
theorem call_count (fn : Nat) (ks : ByteArray) (least : Nat) (hf1 : 31 ≤ fn) (hf2 : fn ≤ 42) (a : Option Addr) (n cap : Nat) (w : World)
    (hpat : ∀ W : World, Calls Tryz.prog 49 #[.int .u8 (fn : Int)] W fun e w' => e = .returned (.tuple #[.string ks, .int .i64 (least : Int)]) ∧ Below W.heap.size W w') (hn : n < least ∨ ks.size < n) :
    Calls Tryz.prog 19 #[.int .u8 (fn : Int), .slice a n cap] w fun e w' => e = .returned (.tuple #[.agg #[.int .u8 0, .int .i64 0, .string ⟨#[]⟩], .int .i64 11]) ∧ Below w.heap.size w w' := by
  have HPAT := Lib.hid hpat
  clear hpat
  have HX : Hid (B3 (w.alloc (.cells #[.int .u8 0, .int .i64 0, .string ⟨#[]⟩] 25)) w.heap.size 0 0 ⟨#[]⟩) := B3.start w 0 0 ⟨#[]⟩
  have HW := Lib.hid (valloc w (.cells #[.int .u8 0, .int .i64 0, .string ⟨#[]⟩] 25))
  have d1 : decide ((fn : Int) < 31) = false := by simp; omega
  have d2 : decide ((42 : Int) < (fn : Int)) = false := by simp; omega
  go_enter Tryz.func19, Tryz.ntmps19
  go_wp2_with fail
  generalize w.alloc (.cells #[.int .u8 0, .int .i64 0, .string ⟨#[]⟩] 25) = w0 at *
  refine (HPAT.out _).mono ?_
  rintro e w1 ⟨rfl, hB1⟩
  have HX1 := Lib.hid (HX.out.later hB1)
  have HB1 := Lib.hid (vnext HW.out hB1)
  clear hB1 HX HW HPAT
  by_cases h1 : n < least
  · have d3 : decide (n < least) = true := decide_eq_true h1
    have d3' : decide ((n : Int) < (least : Int)) = true := by simp; omega
    have hX3 := HX1.out
    obtain ⟨x0, x1, x2, z0, z1, z2⟩ := hX3.cells
    have hXl := hX3.lt
    obtain ⟨hq, hg⟩ := b3_set hX3 0 0 ⟨#[]⟩
    have hb5 := (HB1.out).grown hg (HB1.out).size (fun q hq => by injection hq with hq; omega)
    clear hg
    go_wp2_with fail
    generalize ((w1.setCell ⟨w.heap.size, 0, none⟩ (.int .u8 ((0 : Nat) : Int))).setCell ⟨w.heap.size, 1, none⟩ (.int .i64 0)).setCell ⟨w.heap.size, 2, none⟩ (.string ⟨#[]⟩) = w5 at *
    obtain ⟨v0, v1, v2, _, _, _⟩ := hq.cells
    refine bodyPost_ret (v := .tuple #[.agg #[.int .u8 0, .int .i64 0, .string ⟨#[]⟩], .int .i64 11]) (by simp [results, Tryz.results19, go_sem, v0, v1, v2]) rfl ⟨rfl, hb5⟩
  · have d3 : decide (n < least) = false := decide_eq_false h1
    have d4 : decide (ks.size < n) = true := decide_eq_true (by omega)
    have hX3 := HX1.out
    obtain ⟨x0, x1, x2, z0, z1, z2⟩ := hX3.cells
    have hXl := hX3.lt
    obtain ⟨hq, hg⟩ := b3_set hX3 0 0 ⟨#[]⟩
    have hb5 := (HB1.out).grown hg (HB1.out).size (fun q hq => by injection hq with hq; omega)
    clear hg
    go_wp2_with fail
    generalize ((w1.setCell ⟨w.heap.size, 0, none⟩ (.int .u8 ((0 : Nat) : Int))).setCell ⟨w.heap.size, 1, none⟩ (.int .i64 0)).setCell ⟨w.heap.size, 2, none⟩ (.string ⟨#[]⟩) = w5 at *
    obtain ⟨v0, v1, v2, _, _, _⟩ := hq.cells
    refine bodyPost_ret (v := .tuple #[.agg #[.int .u8 0, .int .i64 0, .string ⟨#[]⟩], .int .i64 11]) (by simp [results, Tryz.results19, go_sem, v0, v1, v2]) rfl ⟨rfl, hb5⟩
set_option maxHeartbeats 6400000 in
theorem call_arg (fn : Nat) (ks : ByteArray) (least : Nat) (hf1 : 31 ≤ fn) (hf2 : fn ≤ 42) (a : Option Addr) (n cap : Nat) (w : World)
    (hpat : ∀ W : World, Calls Tryz.prog 49 #[.int .u8 (fn : Int)] W fun e w' => e = .returned (.tuple #[.string ks, .int .i64 (least : Int)]) ∧ Below W.heap.size W w') (L : List V3) (hL : IsV w a n L) (hl : least ≤ n) (hn : n ≤ ks.size) (hk20 : ks.size ≤ 20) (hv : ∀ v ∈ L, v.2.2.size ≤ maxLen ∧ leastI ≤ v.2.1) (hbad : ∃ v ∈ L, vE v.1 v.2.1 v.2.2.data.toList ≠ 0) :
    Calls Tryz.prog 19 #[.int .u8 (fn : Int), .slice a n cap] w fun e w' => e = .returned (.tuple #[.agg #[.int .u8 0, .int .i64 0, .string ⟨#[]⟩], .int .i64 2]) ∧ Below w.heap.size w w' := by
  have HL := Lib.hid hL
  have HNL := Lib.hid hL.1
  have HBAD := Lib.hid hbad
  have HV : Hid (∀ v ∈ L, ∀ W : World, Calls Tryz.prog 50 #[.agg #[.int .u8 (v.1 : Int), .int .i64 v.2.1, .string v.2.2]] W fun e w' => e = .returned (.int .i64 (vE v.1 v.2.1 v.2.2.data.toList)) ∧ Below W.heap.size W w') := fun v hvm W => vcheck_any v.1 v.2.1 v.2.2 (hv v hvm).1 (hv v hvm).2 W
  clear hL hv hbad
  have HPAT := Lib.hid hpat
  clear hpat
  have HX : Hid (B3 (w.alloc (.cells #[.int .u8 0, .int .i64 0, .string ⟨#[]⟩] 25)) w.heap.size 0 0 ⟨#[]⟩) := B3.start w 0 0 ⟨#[]⟩
  have HW := Lib.hid (valloc w (.cells #[.int .u8 0, .int .i64 0, .string ⟨#[]⟩] 25))
  have d1 : decide ((fn : Int) < 31) = false := by simp; omega
  have d2 : decide ((42 : Int) < (fn : Int)) = false := by simp; omega
  have d3 : decide (n < least) = false := decide_eq_false (by omega)
  have d4 : decide (ks.size < n) = false := decide_eq_false (by omega)
  go_enter Tryz.func19, Tryz.ntmps19
  go_wp2_with fail
  generalize w.alloc (.cells #[.int .u8 0, .int .i64 0, .string ⟨#[]⟩] 25) = w0 at *
  refine (HPAT.out _).mono ?_
  rintro e w1 ⟨rfl, hB1⟩
  have HX1 := Lib.hid (HX.out.later hB1)
  have HB1 := Lib.hid (vnext HW.out hB1)
  clear hB1 HX HW HPAT
  go_wp2_with fail
  go_loopw [39] (fun i wr => ∃ k : Nat, k ≤ n ∧ i = .int .i64 (k : Int) ∧ Hid (Below w.heap.size w wr) ∧ Hid (B3 wr w.heap.size 0 0 ⟨#[]⟩) ∧ Hid (∀ v ∈ L.take k, vE v.1 v.2.1 v.2.2.data.toList = 0)) (fun i _ => n - (intOf i).toNat)
  case atStart => exact ⟨0, Nat.zero_le _, rfl, HB1.out, HX1.out, fun v hv => by simp at hv⟩
  case round =>
    obtain ⟨k, hk, rfl, HB, HX, HOK⟩ := hrel
    clear HB1 HX1
    by_cases hlt : k < n
    · have hkl : k < L.length := by rw [HNL.out]; exact hlt
      have HVk := Lib.hid (HV.out L[k] (List.getElem_mem hkl))
      obtain ⟨b, off, rfl, hrow⟩ := (IsOf.later HL.out HB.out).2 (by omega)
      have c1 : wr.cell? ⟨b, off + k * 3, none⟩ = some (.int .u8 (L[k].1 : Int)) := by have := hrow.2 k hkl 0 _ rfl; rwa [Nat.add_zero] at this
      have c2 : wr.cell? ⟨b, off + k * 3 + 1, none⟩ = some (.int .i64 L[k].2.1) := hrow.2 k hkl 1 _ rfl
      have c3 : wr.cell? ⟨b, off + k * 3 + 2, none⟩ = some (.string L[k].2.2) := hrow.2 k hkl 2 _ rfl
      have hbl := hrow.1
      have HNX : Hid (∀ v ∈ L.take k, vE v.1 v.2.1 v.2.2.data.toList = 0 → True) := fun _ _ _ => trivial
      have HTK : Hid (vE L[k].1 L[k].2.1 L[k].2.2.data.toList = 0 → ∀ v ∈ L.take (k + 1), vE v.1 v.2.1 v.2.2.data.toList = 0) := by
        intro h v hv
        rw [List.take_succ_eq_append_getElem hkl] at hv
        rcases List.mem_append.1 hv with hv | hv
        · exact HOK.out v hv
        · rw [List.mem_singleton.1 hv]; exact h
      have hv02 : vE L[k].1 L[k].2.1 L[k].2.2.data.toList = 0 ∨ vE L[k].1 L[k].2.1 L[k].2.2.data.toList = 2 := by unfold vE; split <;> simp
      clear hrow HNX
      generalize L[k] = vv at *
      obtain ⟨kd, nm, tx⟩ := vv
      dsimp only at c1 c2 c3 HVk HTK hv02
      have HBa := Lib.hid (vnext HB.out (valloc wr (.cells #[.int .u8 (kd : Int), .int .i64 nm, .string tx] 25)))
      have HXa := Lib.hid (HX.out.later (valloc wr (.cells #[.int .u8 (kd : Int), .int .i64 nm, .string tx] 25)))
      go_wp2_with fail
      generalize wr.alloc (.cells #[.int .u8 (kd : Int), .int .i64 nm, .string tx] 25) = wb at *
      refine (HVk.out _).mono ?_
      rintro e w2 ⟨rfl, hB2⟩
      have HB2 := Lib.hid (vnext HBa.out hB2)
      have HX2 := Lib.hid (HXa.out.later hB2)
      clear hB2 HBa HXa c1 c2 c3 hbl HVk
      rcases hv02 with h0 | h2
      · have htk := HTK.out h0
        have HTN := Lib.hid htk
        rw [h0]
        clear h0 htk HTK
        go_wp2_with fail
        exact ⟨⟨k + 1, by omega, by go_num, HB2.out, HX2.out, HTN.out⟩, by simp [intOf]; omega⟩
      · rw [h2]
        clear h2 HTK
        go_upto_region 10 with fail
        have hX3 := HX2.out
        obtain ⟨x0, x1, x2, z0, z1, z2⟩ := hX3.cells
        have hXl := hX3.lt
        obtain ⟨hq, hg⟩ := b3_set hX3 0 0 ⟨#[]⟩
        have hb5 := (HB2.out).grown hg (HB2.out).size (fun q hq => by injection hq with hq; omega)
        clear hg
        go_wp2_with fail
        generalize ((w2.setCell ⟨w.heap.size, 0, none⟩ (.int .u8 ((0 : Nat) : Int))).setCell ⟨w.heap.size, 1, none⟩ (.int .i64 0)).setCell ⟨w.heap.size, 2, none⟩ (.string ⟨#[]⟩) = w5 at *
        obtain ⟨v0, v1, v2, _, _, _⟩ := hq.cells
        refine bodyPost_ret (v := .tuple #[.agg #[.int .u8 0, .int .i64 0, .string ⟨#[]⟩], .int .i64 2]) (by simp [results, Tryz.results19, go_sem, v0, v1, v2]) rfl ⟨rfl, hb5⟩
    · exfalso
      obtain ⟨v, hv, hne⟩ := HBAD.out
      refine hne (HOK.out v ?_)
      rw [List.take_of_length_le (by rw [HNL.out]; omega)]
      exact hv
end Go.Proofs.YtfjefanhkbcfgaaGreatDoor.Va
/- ftext: what the conversion of arguments keeps. -/
namespace Go.Proofs.YtfjefanhkbcfgaaGreatDoor.Va
open Go Go.RowKit GM
set_option linter.unusedVariables false
set_option linter.unusedSimpArgs false
theorem mkN_in {n : Int} (h : InI n) : InI (mkN n) := by
  unfold mkN
  split
  · unfold InI; decide
  · exact h
theorem nb_in (k : Nat) (n : Int) (s : ByteArray) (hv : vE k n s.data.toList = 0) (h1 : ¬ (k = 1 ∨ k = 4)) : InI (nbR k n s).2 := by
  unfold nbR
  split
  · split
    · next hp =>
      have := Tx.par_bd hp
      refine mkN_in ?_
      unfold Tx.mostI at this
      unfold InI
      omega
    · split <;> (unfold InI; decide)
  · next h3 =>
    refine mkN_in ?_
    have hb : n = 0 ∨ n = 1 := by
      unfold vE vldV at hv
      by_cases k0 : k = 0
      · rw [if_pos k0] at hv; simp at hv; exact .inl hv.1
      · rw [if_neg k0, if_neg (fun e => h1 (.inl e))] at hv
        by_cases k2 : k = 2
        · rw [if_pos k2] at hv; simp at hv; exact hv.1
        · rw [if_neg k2, if_neg h3, if_neg (fun e => h1 (.inr e))] at hv
          simp at hv
    unfold InI
    rcases hb with rfl | rfl <;> decide
theorem cv1_in (k : Nat) (n : Int) (s : ByteArray) (hi : InI n) : InI (cvR 1 k n s).2.1 := by
  unfold cvR
  split
  · next hv =>
    split
    · exact hi
    · next h1 =>
      rw [if_pos rfl]
      exact nb_in k n s hv h1
  · unfold InI; decide
theorem cv3_sz (k : Nat) (n : Int) (s : ByteArray) (hi : InI n) (h4 : (cvR 3 k n s).1 ≠ 4) : (cvR 3 k n s).2.2.size ≤ 256 := by
  obtain ⟨h1, h2⟩ := cv3_ok k n s hi
  have hk := h2.resolve_right h4
  rw [hk] at h1
  unfold vE vldV at h1
  simp at h1
  exact chk_z h1.2
theorem convR_facts : ∀ (ks : List UInt8) (L : List V3) (T : List ByteArray) (W : List Int) (T' : List ByteArray) (W' : List Int), (∀ v ∈ L, InI v.2.1) → (∀ c ∈ ks, c = 115 ∨ c = 110) → convR ks L T W = .inl (T', W') →
    T'.length = T.length + (ks.take L.length).count 115 ∧ W'.length = W.length + (ks.take L.length).count 110 + 1 ∧ (∀ t ∈ T', t ∈ T ∨ t.size ≤ 256) ∧ (∀ x ∈ W', x ∈ W ∨ x ≤ 9223372036854775807)
  | [], L, T, W, T', W', hL, hk, h => by
    have e : convR [] L T W = .inl (T, W ++ [1]) := by cases L <;> rfl
    rw [e] at h
    injection h with h
    injection h with h1 h2
    subst h1 h2
    refine ⟨by simp, by simp, fun t ht => .inl ht, fun x hx => ?_⟩
    rcases List.mem_append.1 hx with hx | hx
    · exact .inl hx
    · rw [List.mem_singleton.1 hx]; exact .inr (by decide)
  | c :: cs, [], T, W, T', W', hL, hk, h => by
    have e : convR (c :: cs) [] T W = .inl (T, W ++ [1]) := rfl
    rw [e] at h
    injection h with h
    injection h with h1 h2
    subst h1 h2
    refine ⟨by simp, by simp, fun t ht => .inl ht, fun x hx => ?_⟩
    rcases List.mem_append.1 hx with hx | hx
    · exact .inl hx
    · rw [List.mem_singleton.1 hx]; exact .inr (by decide)
  | c :: cs, v :: L, T, W, T', W', hL, hk, h => by
    have e : convR (c :: cs) (v :: L) T W = if (cvK c v).1 = 4 then .inr (cvK c v) else if c = 115 then convR cs L (T ++ [(cvK c v).2.2]) W else convR cs L T (W ++ [(truncZ (cvK c v).2.1).tdiv 10000]) := rfl
    rw [e] at h
    have hi := hL v (List.mem_cons_self ..)
    have hL' : ∀ v ∈ L, InI v.2.1 := fun u hu => hL u (List.mem_cons_of_mem _ hu)
    have hk' : ∀ c ∈ cs, c = 115 ∨ c = 110 := fun u hu => hk u (List.mem_cons_of_mem _ hu)
    by_cases h4 : (cvK c v).1 = 4
    · rw [if_pos h4] at h; cases h
    rw [if_neg h4] at h
    rcases hk c (List.mem_cons_self ..) with rfl | rfl
    · rw [if_pos rfl] at h
      obtain ⟨a1, a2, a3, a4⟩ := convR_facts cs L _ _ T' W' hL' hk' h
      refine ⟨by rw [a1]; simp; omega, by rw [a2]; simp, fun t ht => ?_, a4⟩
      rcases a3 t ht with h1 | h1
      · rcases List.mem_append.1 h1 with h1 | h1
        · exact .inl h1
        · rw [List.mem_singleton.1 h1]; exact .inr (cv3_sz v.1 v.2.1 v.2.2 hi h4)
      · exact .inr h1
    · rw [if_neg (by decide)] at h
      obtain ⟨a1, a2, a3, a4⟩ := convR_facts cs L _ _ T' W' hL' hk' h
      refine ⟨by rw [a1]; simp, by rw [a2]; simp; omega, a3, fun x hx => ?_⟩
      rcases a4 x hx with h1 | h1
      · rcases List.mem_append.1 h1 with h1 | h1
        · exact .inl h1
        · rw [List.mem_singleton.1 h1]
          have hn := cv1_in v.1 v.2.1 v.2.2 hi
          have ht := (trunc_bd (a := (cvK 110 v).2.1) hn).1
          unfold InI at ht
          refine .inr ?_
          have hq : (truncZ (cvK 110 v).2.1).tdiv 10000 * 10000 + (truncZ (cvK 110 v).2.1).tmod 10000 = truncZ (cvK 110 v).2.1 := Int.tdiv_mul_add_tmod ..
          have hm := neg_lt_tmod (truncZ (cvK 110 v).2.1) (b := 10000) (by decide)
          generalize (truncZ (cvK 110 v).2.1).tdiv 10000 = qq at *
          generalize (truncZ (cvK 110 v).2.1).tmod 10000 = rr at *
          omega
      · exact .inr h1
end Go.Proofs.YtfjefanhkbcfgaaGreatDoor.Va
/- ftext.Call in full, for arguments that are valid and as many as it asks. -/
namespace Go.Proofs.YtfjefanhkbcfgaaGreatDoor.Va
open Go Go.RowKit GM
set_option linter.unusedVariables false
set_option linter.unusedSimpArgs false
def g0 (T : List ByteArray) : ByteArray := T.getD 0 ⟨#[]⟩
def g1 (T : List ByteArray) : ByteArray := T.getD 1 ⟨#[]⟩
def n0 (W : List Int) : Int := W.getD 0 0
def n1 (W : List Int) : Int := W.getD 1 0
theorem g0_at {T : List ByteArray} (h : 1 ≤ T.length) : T[0]? = some (g0 T) := by unfold g0; rw [List.getD_eq_getElem?_getD, List.getElem?_eq_getElem (by omega)]; rfl
theorem g1_at {T : List ByteArray} (h : 2 ≤ T.length) : T[1]? = some (g1 T) := by unfold g1; rw [List.getD_eq_getElem?_getD, List.getElem?_eq_getElem (by omega)]; rfl
theorem n0_at {T : List Int} (h : 1 ≤ T.length) : T[0]? = some (n0 T) := by unfold n0; rw [List.getD_eq_getElem?_getD, List.getElem?_eq_getElem (by omega)]; rfl
theorem n1_at {T : List Int} (h : 2 ≤ T.length) : T[1]? = some (n1 T) := by unfold n1; rw [List.getD_eq_getElem?_getD, List.getElem?_eq_getElem (by omega)]; rfl
theorem mem_at {α : Type} {l : List α} {i : Nat} {x : α} (h : l[i]? = some x) : x ∈ l := List.mem_of_getElem? h
/-- What the function of a number makes of the arguments that are converted. -/
def methV (fn : Nat) (T : List ByteArray) (W : List Int) : V3 :=
  match fn with
  | 31 => cnV ((g0 T).size : Int)
  | 32 => leftV (g0 T) (n0 W)
  | 33 => rightV (g0 T) (n0 W)
  | 34 => midV (g0 T) (n0 W) (n1 W)
  | 35 => txV (upS (g0 T))
  | 36 => txV (loS (g0 T))
  | 37 => txV (trimS (g0 T))
  | 38 => txV (joinB T)
  | 39 => reptV (g0 T) (n0 W)
  | 40 => exactV (g0 T) (g1 T)
  | 41 => findV (g0 T) (g1 T) (n0 W)
  | _ => cvR 1 (txV (g0 T)).1 (txV (g0 T)).2.1 (txV (g0 T)).2.2
def resV (fn : Nat) (R : (List ByteArray × List Int) ⊕ V3) : V3 :=
  match R with
  | .inl p => methV fn p.1 p.2
  | .inr x => x
theorem call_31 (a : Option Addr) (n cap : Nat) (L : List V3) (w : World) (hL : IsV w a n L) (hl : 1 ≤ n) (hn : n ≤ 1) (hv : ∀ v ∈ L, v.2.2.size ≤ 2000 ∧ InI v.2.1) (hck : ∀ v ∈ L, vE v.1 v.2.1 v.2.2.data.toList = 0) (hT : Tb w) :
    Calls Tryz.prog 19 #[.int .u8 31, .slice a n cap] w fun e w' => e = .returned (.tuple #[vOf (resV 31 (convR [115] L [] [])), .int .i64 0]) ∧ Below w.heap.size w w' := by
  refine call_any 31 105 ⟨#[115]⟩ 1 (by decide) (by decide) a n cap L w hL pat_31 hl hn (by decide) (by decide) hv (fun k h1 h2 _ => cv1_in _ _ _ (hv _ (List.getElem_mem h1)).2) hck hT (fun W q x y h => look_length h) (enters_of Tryz.func105 (by kernel_rfl) rfl) (resV 31 (convR [115] L [] []))
    (fun T W0 h ta tn tc wa wn wc X hX h1 hc h2 => ?_) (fun x h => by rw [show convR [115] L [] [] = .inr x from h]; rfl)
  have hnl := hL.1
  obtain ⟨f1, f2, f3, f4⟩ := convR_facts [115] L [] [] T W0 (fun v hv' => (hv v hv').2) (by decide) h
  rw [show convR [115] L [] [] = .inl (T, W0) from h]
  have f1 : 1 ≤ T.length := by
    rw [f1, hnl]
    obtain rfl := (by omega : n = 1)
    decide
  have f2 : 1 ≤ W0.length := by
    rw [f2, hnl]
    obtain rfl := (by omega : n = 1)
    decide
  exact m_len ta wa tn tc wn wc T W0 X h1 h2 (g0 T) (g0_at f1) (Nat.le_trans ((f3 _ (mem_at (g0_at f1))).resolve_left (by simp)) (by decide))
theorem call_32 (a : Option Addr) (n cap : Nat) (L : List V3) (w : World) (hL : IsV w a n L) (hl : 1 ≤ n) (hn : n ≤ 2) (hv : ∀ v ∈ L, v.2.2.size ≤ 2000 ∧ InI v.2.1) (hck : ∀ v ∈ L, vE v.1 v.2.1 v.2.2.data.toList = 0) (hT : Tb w) :
    Calls Tryz.prog 19 #[.int .u8 32, .slice a n cap] w fun e w' => e = .returned (.tuple #[vOf (resV 32 (convR [115, 110] L [] [])), .int .i64 0]) ∧ Below w.heap.size w w' := by
  refine call_any 32 106 ⟨#[115, 110]⟩ 1 (by decide) (by decide) a n cap L w hL pat_32 hl hn (by decide) (by decide) hv (fun k h1 h2 _ => cv1_in _ _ _ (hv _ (List.getElem_mem h1)).2) hck hT (fun W q x y h => look_left h) (enters_of Tryz.func106 (by kernel_rfl) rfl) (resV 32 (convR [115, 110] L [] []))
    (fun T W0 h ta tn tc wa wn wc X hX h1 hc h2 => ?_) (fun x h => by rw [show convR [115, 110] L [] [] = .inr x from h]; rfl)
  have hnl := hL.1
  obtain ⟨f1, f2, f3, f4⟩ := convR_facts [115, 110] L [] [] T W0 (fun v hv' => (hv v hv').2) (by decide) h
  rw [show convR [115, 110] L [] [] = .inl (T, W0) from h]
  have f1 : 1 ≤ T.length := by
    rw [f1, hnl]
    obtain rfl | rfl := (by omega : n = 1 ∨ n = 2)
    all_goals decide
  have f2 : 1 ≤ W0.length := by
    rw [f2, hnl]
    obtain rfl | rfl := (by omega : n = 1 ∨ n = 2)
    all_goals decide
  exact m_left ta wa tn tc wn wc T W0 X h1 h2 (g0 T) (n0 W0) (g0_at f1) (n0_at f2) (Nat.le_trans ((f3 _ (mem_at (g0_at f1))).resolve_left (by simp)) (by decide))
theorem call_33 (a : Option Addr) (n cap : Nat) (L : List V3) (w : World) (hL : IsV w a n L) (hl : 1 ≤ n) (hn : n ≤ 2) (hv : ∀ v ∈ L, v.2.2.size ≤ 2000 ∧ InI v.2.1) (hck : ∀ v ∈ L, vE v.1 v.2.1 v.2.2.data.toList = 0) (hT : Tb w) :
    Calls Tryz.prog 19 #[.int .u8 33, .slice a n cap] w fun e w' => e = .returned (.tuple #[vOf (resV 33 (convR [115, 110] L [] [])), .int .i64 0]) ∧ Below w.heap.size w w' := by
  refine call_any 33 107 ⟨#[115, 110]⟩ 1 (by decide) (by decide) a n cap L w hL pat_33 hl hn (by decide) (by decide) hv (fun k h1 h2 _ => cv1_in _ _ _ (hv _ (List.getElem_mem h1)).2) hck hT (fun W q x y h => look_right h) (enters_of Tryz.func107 (by kernel_rfl) rfl) (resV 33 (convR [115, 110] L [] []))
    (fun T W0 h ta tn tc wa wn wc X hX h1 hc h2 => ?_) (fun x h => by rw [show convR [115, 110] L [] [] = .inr x from h]; rfl)
  have hnl := hL.1
  obtain ⟨f1, f2, f3, f4⟩ := convR_facts [115, 110] L [] [] T W0 (fun v hv' => (hv v hv').2) (by decide) h
  rw [show convR [115, 110] L [] [] = .inl (T, W0) from h]
  have f1 : 1 ≤ T.length := by
    rw [f1, hnl]
    obtain rfl | rfl := (by omega : n = 1 ∨ n = 2)
    all_goals decide
  have f2 : 1 ≤ W0.length := by
    rw [f2, hnl]
    obtain rfl | rfl := (by omega : n = 1 ∨ n = 2)
    all_goals decide
  exact m_right ta wa tn tc wn wc T W0 X h1 h2 (g0 T) (n0 W0) (g0_at f1) (n0_at f2) (Nat.le_trans ((f3 _ (mem_at (g0_at f1))).resolve_left (by simp)) (by decide))
theorem call_34 (a : Option Addr) (n cap : Nat) (L : List V3) (w : World) (hL : IsV w a n L) (hl : 3 ≤ n) (hn : n ≤ 3) (hv : ∀ v ∈ L, v.2.2.size ≤ 2000 ∧ InI v.2.1) (hck : ∀ v ∈ L, vE v.1 v.2.1 v.2.2.data.toList = 0) (hT : Tb w) :
    Calls Tryz.prog 19 #[.int .u8 34, .slice a n cap] w fun e w' => e = .returned (.tuple #[vOf (resV 34 (convR [115, 110, 110] L [] [])), .int .i64 0]) ∧ Below w.heap.size w w' := by
  refine call_any 34 108 ⟨#[115, 110, 110]⟩ 3 (by decide) (by decide) a n cap L w hL pat_34 hl hn (by decide) (by decide) hv (fun k h1 h2 _ => cv1_in _ _ _ (hv _ (List.getElem_mem h1)).2) hck hT (fun W q x y h => look_middle h) (enters_of Tryz.func108 (by kernel_rfl) rfl) (resV 34 (convR [115, 110, 110] L [] []))
    (fun T W0 h ta tn tc wa wn wc X hX h1 hc h2 => ?_) (fun x h => by rw [show convR [115, 110, 110] L [] [] = .inr x from h]; rfl)
  have hnl := hL.1
  obtain ⟨f1, f2, f3, f4⟩ := convR_facts [115, 110, 110] L [] [] T W0 (fun v hv' => (hv v hv').2) (by decide) h
  rw [show convR [115, 110, 110] L [] [] = .inl (T, W0) from h]
  have f1 : 1 ≤ T.length := by
    rw [f1, hnl]
    obtain rfl := (by omega : n = 3)
    decide
  have f2 : 2 ≤ W0.length := by
    rw [f2, hnl]
    obtain rfl := (by omega : n = 3)
    decide
  exact m_mid ta wa tn tc wn wc T W0 X h1 h2 (g0 T) (n0 W0) (n1 W0) (g0_at f1) (n0_at (Nat.le_trans (by decide) f2)) (n1_at f2) ((f4 _ (mem_at (n0_at (Nat.le_trans (by decide) f2)))).resolve_left (by simp)) (Nat.le_trans ((f3 _ (mem_at (g0_at f1))).resolve_left (by simp)) (by decide))
theorem call_35 (a : Option Addr) (n cap : Nat) (L : List V3) (w : World) (hL : IsV w a n L) (hl : 1 ≤ n) (hn : n ≤ 1) (hv : ∀ v ∈ L, v.2.2.size ≤ 2000 ∧ InI v.2.1) (hck : ∀ v ∈ L, vE v.1 v.2.1 v.2.2.data.toList = 0) (hT : Tb w) :
    Calls Tryz.prog 19 #[.int .u8 35, .slice a n cap] w fun e w' => e = .returned (.tuple #[vOf (resV 35 (convR [115] L [] [])), .int .i64 0]) ∧ Below w.heap.size w w' := by
  refine call_any 35 109 ⟨#[115]⟩ 1 (by decide) (by decide) a n cap L w hL pat_35 hl hn (by decide) (by decide) hv (fun k h1 h2 _ => cv1_in _ _ _ (hv _ (List.getElem_mem h1)).2) hck hT (fun W q x y h => look_upper h) (enters_of Tryz.func109 (by kernel_rfl) rfl) (resV 35 (convR [115] L [] []))
    (fun T W0 h ta tn tc wa wn wc X hX h1 hc h2 => ?_) (fun x h => by rw [show convR [115] L [] [] = .inr x from h]; rfl)
  have hnl := hL.1
  obtain ⟨f1, f2, f3, f4⟩ := convR_facts [115] L [] [] T W0 (fun v hv' => (hv v hv').2) (by decide) h
  rw [show convR [115] L [] [] = .inl (T, W0) from h]
  have f1 : 1 ≤ T.length := by
    rw [f1, hnl]
    obtain rfl := (by omega : n = 1)
    decide
  have f2 : 1 ≤ W0.length := by
    rw [f2, hnl]
    obtain rfl := (by omega : n = 1)
    decide
  exact m_upper ta wa tn tc wn wc T W0 X h1 h2 (g0 T) (g0_at f1) (Nat.le_trans ((f3 _ (mem_at (g0_at f1))).resolve_left (by simp)) (by decide))
theorem call_36 (a : Option Addr) (n cap : Nat) (L : List V3) (w : World) (hL : IsV w a n L) (hl : 1 ≤ n) (hn : n ≤ 1) (hv : ∀ v ∈ L, v.2.2.size ≤ 2000 ∧ InI v.2.1) (hck : ∀ v ∈ L, vE v.1 v.2.1 v.2.2.data.toList = 0) (hT : Tb w) :
    Calls Tryz.prog 19 #[.int .u8 36, .slice a n cap] w fun e w' => e = .returned (.tuple #[vOf (resV 36 (convR [115] L [] [])), .int .i64 0]) ∧ Below w.heap.size w w' := by
  refine call_any 36 110 ⟨#[115]⟩ 1 (by decide) (by decide) a n cap L w hL pat_36 hl hn (by decide) (by decide) hv (fun k h1 h2 _ => cv1_in _ _ _ (hv _ (List.getElem_mem h1)).2) hck hT (fun W q x y h => look_lower h) (enters_of Tryz.func110 (by kernel_rfl) rfl) (resV 36 (convR [115] L [] []))
    (fun T W0 h ta tn tc wa wn wc X hX h1 hc h2 => ?_) (fun x h => by rw [show convR [115] L [] [] = .inr x from h]; rfl)
  have hnl := hL.1
  obtain ⟨f1, f2, f3, f4⟩ := convR_facts [115] L [] [] T W0 (fun v hv' => (hv v hv').2) (by decide) h
  rw [show convR [115] L [] [] = .inl (T, W0) from h]
  have f1 : 1 ≤ T.length := by
    rw [f1, hnl]
    obtain rfl := (by omega : n = 1)
    decide
  have f2 : 1 ≤ W0.length := by
    rw [f2, hnl]
    obtain rfl := (by omega : n = 1)
    decide
  exact m_lower ta wa tn tc wn wc T W0 X h1 h2 (g0 T) (g0_at f1) (Nat.le_trans ((f3 _ (mem_at (g0_at f1))).resolve_left (by simp)) (by decide))
theorem call_37 (a : Option Addr) (n cap : Nat) (L : List V3) (w : World) (hL : IsV w a n L) (hl : 1 ≤ n) (hn : n ≤ 1) (hv : ∀ v ∈ L, v.2.2.size ≤ 2000 ∧ InI v.2.1) (hck : ∀ v ∈ L, vE v.1 v.2.1 v.2.2.data.toList = 0) (hT : Tb w) :
    Calls Tryz.prog 19 #[.int .u8 37, .slice a n cap] w fun e w' => e = .returned (.tuple #[vOf (resV 37 (convR [115] L [] [])), .int .i64 0]) ∧ Below w.heap.size w w' := by
  refine call_any 37 111 ⟨#[115]⟩ 1 (by decide) (by decide) a n cap L w hL pat_37 hl hn (by decide) (by decide) hv (fun k h1 h2 _ => cv1_in _ _ _ (hv _ (List.getElem_mem h1)).2) hck hT (fun W q x y h => look_trim h) (enters_of Tryz.func111 (by kernel_rfl) rfl) (resV 37 (convR [115] L [] []))
    (fun T W0 h ta tn tc wa wn wc X hX h1 hc h2 => ?_) (fun x h => by rw [show convR [115] L [] [] = .inr x from h]; rfl)
  have hnl := hL.1
  obtain ⟨f1, f2, f3, f4⟩ := convR_facts [115] L [] [] T W0 (fun v hv' => (hv v hv').2) (by decide) h
  rw [show convR [115] L [] [] = .inl (T, W0) from h]
  have f1 : 1 ≤ T.length := by
    rw [f1, hnl]
    obtain rfl := (by omega : n = 1)
    decide
  have f2 : 1 ≤ W0.length := by
    rw [f2, hnl]
    obtain rfl := (by omega : n = 1)
    decide
  exact m_trim ta wa tn tc wn wc T W0 X h1 h2 (g0 T) (g0_at f1) (Nat.le_trans ((f3 _ (mem_at (g0_at f1))).resolve_left (by simp)) (by decide))
theorem call_39 (a : Option Addr) (n cap : Nat) (L : List V3) (w : World) (hL : IsV w a n L) (hl : 2 ≤ n) (hn : n ≤ 2) (hv : ∀ v ∈ L, v.2.2.size ≤ 2000 ∧ InI v.2.1) (hck : ∀ v ∈ L, vE v.1 v.2.1 v.2.2.data.toList = 0) (hT : Tb w) :
    Calls Tryz.prog 19 #[.int .u8 39, .slice a n cap] w fun e w' => e = .returned (.tuple #[vOf (resV 39 (convR [115, 110] L [] [])), .int .i64 0]) ∧ Below w.heap.size w w' := by
  refine call_any 39 113 ⟨#[115, 110]⟩ 2 (by decide) (by decide) a n cap L w hL pat_39 hl hn (by decide) (by decide) hv (fun k h1 h2 _ => cv1_in _ _ _ (hv _ (List.getElem_mem h1)).2) hck hT (fun W q x y h => look_repeat h) (enters_of Tryz.func113 (by kernel_rfl) rfl) (resV 39 (convR [115, 110] L [] []))
    (fun T W0 h ta tn tc wa wn wc X hX h1 hc h2 => ?_) (fun x h => by rw [show convR [115, 110] L [] [] = .inr x from h]; rfl)
  have hnl := hL.1
  obtain ⟨f1, f2, f3, f4⟩ := convR_facts [115, 110] L [] [] T W0 (fun v hv' => (hv v hv').2) (by decide) h
  rw [show convR [115, 110] L [] [] = .inl (T, W0) from h]
  have f1 : 1 ≤ T.length := by
    rw [f1, hnl]
    obtain rfl := (by omega : n = 2)
    decide
  have f2 : 1 ≤ W0.length := by
    rw [f2, hnl]
    obtain rfl := (by omega : n = 2)
    decide
  exact m_rept ta wa tn tc wn wc T W0 X h1 h2 (g0 T) (n0 W0) (g0_at f1) (n0_at f2) (Nat.le_trans ((f3 _ (mem_at (g0_at f1))).resolve_left (by simp)) (by decide))
theorem call_40 (a : Option Addr) (n cap : Nat) (L : List V3) (w : World) (hL : IsV w a n L) (hl : 2 ≤ n) (hn : n ≤ 2) (hv : ∀ v ∈ L, v.2.2.size ≤ 2000 ∧ InI v.2.1) (hck : ∀ v ∈ L, vE v.1 v.2.1 v.2.2.data.toList = 0) (hT : Tb w) :
    Calls Tryz.prog 19 #[.int .u8 40, .slice a n cap] w fun e w' => e = .returned (.tuple #[vOf (resV 40 (convR [115, 115] L [] [])), .int .i64 0]) ∧ Below w.heap.size w w' := by
  refine call_any 40 114 ⟨#[115, 115]⟩ 2 (by decide) (by decide) a n cap L w hL pat_40 hl hn (by decide) (by decide) hv (fun k h1 h2 _ => cv1_in _ _ _ (hv _ (List.getElem_mem h1)).2) hck hT (fun W q x y h => look_exact h) (enters_of Tryz.func114 (by kernel_rfl) rfl) (resV 40 (convR [115, 115] L [] []))
    (fun T W0 h ta tn tc wa wn wc X hX h1 hc h2 => ?_) (fun x h => by rw [show convR [115, 115] L [] [] = .inr x from h]; rfl)
  have hnl := hL.1
  obtain ⟨f1, f2, f3, f4⟩ := convR_facts [115, 115] L [] [] T W0 (fun v hv' => (hv v hv').2) (by decide) h
  rw [show convR [115, 115] L [] [] = .inl (T, W0) from h]
  have f1 : 2 ≤ T.length := by
    rw [f1, hnl]
    obtain rfl := (by omega : n = 2)
    decide
  have f2 : 1 ≤ W0.length := by
    rw [f2, hnl]
    obtain rfl := (by omega : n = 2)
    decide
  exact m_exact ta wa tn tc wn wc T W0 X h1 h2 (g0 T) (g1 T) (g0_at (Nat.le_trans (by decide) f1)) (g1_at f1)
theorem call_41 (a : Option Addr) (n cap : Nat) (L : List V3) (w : World) (hL : IsV w a n L) (hl : 2 ≤ n) (hn : n ≤ 3) (hv : ∀ v ∈ L, v.2.2.size ≤ 2000 ∧ InI v.2.1) (hck : ∀ v ∈ L, vE v.1 v.2.1 v.2.2.data.toList = 0) (hT : Tb w) (hM : ML w) :
    Calls Tryz.prog 19 #[.int .u8 41, .slice a n cap] w fun e w' => e = .returned (.tuple #[vOf (resV 41 (convR [115, 115, 110] L [] [])), .int .i64 0]) ∧ Below w.heap.size w w' := by
  have HML := Lib.hid hM
  refine call_any 41 115 ⟨#[115, 115, 110]⟩ 2 (by decide) (by decide) a n cap L w hL pat_41 hl hn (by decide) (by decide) hv (fun k h1 h2 _ => cv1_in _ _ _ (hv _ (List.getElem_mem h1)).2) hck hT (fun W q x y h => look_find h) (enters_of Tryz.func115 (by kernel_rfl) rfl) (resV 41 (convR [115, 115, 110] L [] []))
    (fun T W0 h ta tn tc wa wn wc X hX h1 hc h2 => ?_) (fun x h => by rw [show convR [115, 115, 110] L [] [] = .inr x from h]; rfl)
  have hnl := hL.1
  obtain ⟨f1, f2, f3, f4⟩ := convR_facts [115, 115, 110] L [] [] T W0 (fun v hv' => (hv v hv').2) (by decide) h
  rw [show convR [115, 115, 110] L [] [] = .inl (T, W0) from h]
  have f1 : 2 ≤ T.length := by
    rw [f1, hnl]
    obtain rfl | rfl := (by omega : n = 2 ∨ n = 3)
    all_goals decide
  have f2 : 1 ≤ W0.length := by
    rw [f2, hnl]
    obtain rfl | rfl := (by omega : n = 2 ∨ n = 3)
    all_goals decide
  exact m_find ta wa tn tc wn wc T W0 X h1 h2 (g0 T) (g1 T) (n0 W0) (g0_at (Nat.le_trans (by decide) f1)) (g1_at f1) (n0_at f2) (Nat.le_trans ((f3 _ (mem_at (g1_at f1))).resolve_left (by simp)) (by decide)) (HML.out.later hX)
theorem call_42 (a : Option Addr) (n cap : Nat) (L : List V3) (w : World) (hL : IsV w a n L) (hl : 1 ≤ n) (hn : n ≤ 1) (hv : ∀ v ∈ L, v.2.2.size ≤ 2000 ∧ InI v.2.1) (hck : ∀ v ∈ L, vE v.1 v.2.1 v.2.2.data.toList = 0) (hT : Tb w) :
    Calls Tryz.prog 19 #[.int .u8 42, .slice a n cap] w fun e w' => e = .returned (.tuple #[vOf (resV 42 (convR [115] L [] [])), .int .i64 0]) ∧ Below w.heap.size w w' := by
  refine call_any 42 116 ⟨#[115]⟩ 1 (by decide) (by decide) a n cap L w hL pat_42 hl hn (by decide) (by decide) hv (fun k h1 h2 _ => cv1_in _ _ _ (hv _ (List.getElem_mem h1)).2) hck hT (fun W q x y h => look_value h) (enters_of Tryz.func116 (by kernel_rfl) rfl) (resV 42 (convR [115] L [] []))
    (fun T W0 h ta tn tc wa wn wc X hX h1 hc h2 => ?_) (fun x h => by rw [show convR [115] L [] [] = .inr x from h]; rfl)
  have hnl := hL.1
  obtain ⟨f1, f2, f3, f4⟩ := convR_facts [115] L [] [] T W0 (fun v hv' => (hv v hv').2) (by decide) h
  rw [show convR [115] L [] [] = .inl (T, W0) from h]
  have f1 : 1 ≤ T.length := by
    rw [f1, hnl]
    obtain rfl := (by omega : n = 1)
    decide
  have f2 : 1 ≤ W0.length := by
    rw [f2, hnl]
    obtain rfl := (by omega : n = 1)
    decide
  exact m_value ta wa tn tc wn wc T W0 X h1 h2 (g0 T) (g0_at f1) (hT.later hX)
theorem join_flat : ∀ l : List (List UInt8), Lib.join l [] = l.flatten
  | [] => rfl
  | [a] => by simp [Lib.join, List.intercalate]
  | a :: b :: l => by
    have ih := join_flat (b :: l)
    unfold Lib.join List.intercalate at *
    rw [List.intersperse_cons_cons, List.flatten_cons, List.flatten_cons, ih]
    simp
theorem joinB_sz : ∀ T : List ByteArray, (∀ t ∈ T, t.size ≤ 256) → (joinB T).size ≤ 256 * T.length := by
  intro T h
  have e : (joinB T).size = (T.map (·.data.toList)).flatten.length := by
    rw [← join_flat]; rfl
  rw [e]
  clear e
  induction T with
  | nil => simp
  | cons t T ih =>
    rw [List.map_cons, List.flatten_cons, List.length_append, List.length_cons]
    have := ih (fun x hx => h x (List.mem_cons_of_mem _ hx))
    have h1 := h t (List.mem_cons_self ..)
    have h2 := dlen t
    omega
theorem call_38 (a : Option Addr) (n cap : Nat) (L : List V3) (w : World) (hL : IsV w a n L) (hl : 1 ≤ n) (hn : n ≤ 16) (hv : ∀ v ∈ L, v.2.2.size ≤ 2000 ∧ InI v.2.1) (hck : ∀ v ∈ L, vE v.1 v.2.1 v.2.2.data.toList = 0) (hT : Tb w) :
    Calls Tryz.prog 19 #[.int .u8 38, .slice a n cap] w fun e w' => e = .returned (.tuple #[vOf (resV 38 (convR [115, 115, 115, 115, 115, 115, 115, 115, 115, 115, 115, 115, 115, 115, 115, 115] L [] [])), .int .i64 0]) ∧ Below w.heap.size w w' := by
  refine call_any 38 112 ⟨#[115, 115, 115, 115, 115, 115, 115, 115, 115, 115, 115, 115, 115, 115, 115, 115]⟩ 1 (by decide) (by decide) a n cap L w hL pat_38 hl hn (by decide) (by decide) hv (fun k h1 h2 _ => cv1_in _ _ _ (hv _ (List.getElem_mem h1)).2) hck hT (fun W q x y h => look_concat h) (enters_of Tryz.func112 (by kernel_rfl) rfl) (resV 38 (convR [115, 115, 115, 115, 115, 115, 115, 115, 115, 115, 115, 115, 115, 115, 115, 115] L [] []))
    (fun T W0 h ta tn tc wa wn wc X hX h1 hc h2 => ?_) (fun x h => by rw [show convR [115, 115, 115, 115, 115, 115, 115, 115, 115, 115, 115, 115, 115, 115, 115, 115] L [] [] = .inr x from h]; rfl)
  have hnl := hL.1
  obtain ⟨f1, f2, f3, f4⟩ := convR_facts [115, 115, 115, 115, 115, 115, 115, 115, 115, 115, 115, 115, 115, 115, 115, 115] L [] [] T W0 (fun v hv' => (hv v hv').2) (by decide) h
  rw [show convR [115, 115, 115, 115, 115, 115, 115, 115, 115, 115, 115, 115, 115, 115, 115, 115] L [] [] = .inl (T, W0) from h]
  have hz := joinB_sz T (fun t ht => (f3 t ht).resolve_left (by simp))
  have hc16 : (List.take L.length [115, 115, 115, 115, 115, 115, 115, 115, 115, 115, 115, 115, 115, 115, 115, 115]).count (115 : UInt8) ≤ 16 := Nat.le_trans List.count_le_length (by rw [List.length_take]; exact Nat.min_le_right _ _)
  have hlen : T.length ≤ 16 := by rw [f1]; simpa using hc16
  exact m_cat ta wa tn tc wn wc T W0 X h1 h2 (by rw [← h1.1]; omega) hc (by omega)
end Go.Proofs.YtfjefanhkbcfgaaGreatDoor.Va
/- ftext.Call in full. -/
namespace Go.Proofs.YtfjefanhkbcfgaaGreatDoor.Va
open Go Go.RowKit GM
set_option linter.unusedVariables false
set_option linter.unusedSimpArgs false
/-- The kinds of the arguments of a function, and how many it asks at least. -/
def patV (fn : Nat) : ByteArray × Nat :=
  match fn with
  | 32 => (⟨#[115, 110]⟩, 1)
  | 33 => (⟨#[115, 110]⟩, 1)
  | 34 => (⟨#[115, 110, 110]⟩, 3)
  | 38 => (⟨#[115, 115, 115, 115, 115, 115, 115, 115, 115, 115, 115, 115, 115, 115, 115, 115]⟩, 1)
  | 39 => (⟨#[115, 110]⟩, 2)
  | 40 => (⟨#[115, 115]⟩, 2)
  | 41 => (⟨#[115, 115, 110]⟩, 2)
  | _ => (⟨#[115]⟩, 1)
/-- ftext.Call's answer: the value, and the number of the error. -/
def callV (fn : Nat) (L : List V3) : V3 × Int :=
  if fn < 31 ∨ 42 < fn then ((0, 0, ⟨#[]⟩), 10)
  else if L.length < (patV fn).2 ∨ (patV fn).1.size < L.length then ((0, 0, ⟨#[]⟩), 11)
  else if L.all (fun v => decide (vE v.1 v.2.1 v.2.2.data.toList = 0)) = false then ((0, 0, ⟨#[]⟩), 2)
  else (resV fn (convR (patV fn).1.data.toList L [] []), 0)
theorem vE_sz {v : V3} (h : vE v.1 v.2.1 v.2.2.data.toList = 0) : v.2.2.size ≤ 256 := by
  obtain ⟨k, n, s⟩ := v
  have hv : vldV k n s.data.toList = true := by
    unfold vE at h
    by_cases hv : vldV k n s.data.toList = true
    · exact hv
    · simp only [if_neg hv] at h; omega
  have he : s.data.toList.isEmpty = true → s.size ≤ 256 := fun e => by
    have := dlen s
    rw [List.isEmpty_iff.1 e] at this
    simp at this
    omega
  unfold vldV at hv
  split at hv
  · exact he (by simp at hv ⊢; exact hv.2)
  split at hv
  · exact he (by simp at hv ⊢; exact hv.2)
  split at hv
  · exact he (by simp at hv ⊢; exact hv.2)
  split at hv
  · simp at hv; exact chk_z hv.2
  split at hv
  · exact he (by simp at hv ⊢; exact hv.2)
  · cases hv
theorem pcall_any (fn : Nat) (a : Option Addr) (n cap : Nat) (L : List V3) (w : World) (hL : IsV w a n L) (hv : ∀ v ∈ L, v.2.2.size ≤ maxLen ∧ InI v.2.1) (hT : Tb w) (hM : ML w) :
    Calls Tryz.prog 19 #[.int .u8 (fn : Int), .slice a n cap] w fun e w' => e = .returned (.tuple #[vOf (callV fn L).1, .int .i64 (callV fn L).2]) ∧ Below w.heap.size w w' := by
  have hnl := hL.1
  by_cases hf : fn < 31 ∨ 42 < fn
  · have e : callV fn L = ((0, 0, ⟨#[]⟩), 10) := if_pos hf
    rw [e]
    exact call_name fn hf a n cap w
  have hpat : ∀ W : World, Calls Tryz.prog 49 #[.int .u8 (fn : Int)] W fun e w' => e = .returned (.tuple #[.string (patV fn).1, .int .i64 ((patV fn).2 : Int)]) ∧ Below W.heap.size W w' := by
    obtain rfl | rfl | rfl | rfl | rfl | rfl | rfl | rfl | rfl | rfl | rfl | rfl := (by omega : fn = 31 ∨ fn = 32 ∨ fn = 33 ∨ fn = 34 ∨ fn = 35 ∨ fn = 36 ∨ fn = 37 ∨ fn = 38 ∨ fn = 39 ∨ fn = 40 ∨ fn = 41 ∨ fn = 42)
    · exact pat_31
    · exact pat_32
    · exact pat_33
    · exact pat_34
    · exact pat_35
    · exact pat_36
    · exact pat_37
    · exact pat_38
    · exact pat_39
    · exact pat_40
    · exact pat_41
    · exact pat_42
  by_cases hc : L.length < (patV fn).2 ∨ (patV fn).1.size < L.length
  · have e : callV fn L = ((0, 0, ⟨#[]⟩), 11) := by unfold callV; rw [if_neg hf, if_pos hc]
    rw [e]
    exact call_count fn _ _ (by omega) (by omega) a n cap w hpat (by rw [← hnl]; exact hc)
  have hk20 : (patV fn).1.size ≤ 20 := by
    obtain rfl | rfl | rfl | rfl | rfl | rfl | rfl | rfl | rfl | rfl | rfl | rfl := (by omega : fn = 31 ∨ fn = 32 ∨ fn = 33 ∨ fn = 34 ∨ fn = 35 ∨ fn = 36 ∨ fn = 37 ∨ fn = 38 ∨ fn = 39 ∨ fn = 40 ∨ fn = 41 ∨ fn = 42)
    all_goals decide
  by_cases hb : L.all (fun v => decide (vE v.1 v.2.1 v.2.2.data.toList = 0)) = false
  · have e : callV fn L = ((0, 0, ⟨#[]⟩), 2) := by unfold callV; rw [if_neg hf, if_neg hc, if_pos hb]
    rw [e]
    refine call_arg fn _ _ (by omega) (by omega) a n cap w hpat L hL (by omega) (by omega) hk20 (fun v h => ⟨(hv v h).1, by have := (hv v h).2; unfold InI at this; unfold leastI; omega⟩) ?_
    rw [List.all_eq_false] at hb
    obtain ⟨v, h1, h2⟩ := hb
    exact ⟨v, h1, by simpa using h2⟩
  have e : callV fn L = (resV fn (convR (patV fn).1.data.toList L [] []), 0) := by unfold callV; rw [if_neg hf, if_neg hc, if_neg hb]
  rw [e]
  have hck : ∀ v ∈ L, vE v.1 v.2.1 v.2.2.data.toList = 0 := by
    have := eq_true_of_ne_false hb
    rw [List.all_eq_true] at this
    exact fun v h => by simpa using this v h
  have hv2 : ∀ v ∈ L, v.2.2.size ≤ 2000 ∧ InI v.2.1 := fun v h => ⟨Nat.le_trans (vE_sz (hck v h)) (by decide), (hv v h).2⟩
  have h1 : (patV fn).2 ≤ n := by omega
  have h2 : n ≤ (patV fn).1.size := by omega
  obtain rfl | rfl | rfl | rfl | rfl | rfl | rfl | rfl | rfl | rfl | rfl | rfl := (by omega : fn = 31 ∨ fn = 32 ∨ fn = 33 ∨ fn = 34 ∨ fn = 35 ∨ fn = 36 ∨ fn = 37 ∨ fn = 38 ∨ fn = 39 ∨ fn = 40 ∨ fn = 41 ∨ fn = 42)
  · exact call_31 a n cap L w hL h1 h2 hv2 hck hT
  · exact call_32 a n cap L w hL h1 h2 hv2 hck hT
  · exact call_33 a n cap L w hL h1 h2 hv2 hck hT
  · exact call_34 a n cap L w hL h1 h2 hv2 hck hT
  · exact call_35 a n cap L w hL h1 h2 hv2 hck hT
  · exact call_36 a n cap L w hL h1 h2 hv2 hck hT
  · exact call_37 a n cap L w hL h1 h2 hv2 hck hT
  · exact call_38 a n cap L w hL h1 h2 hv2 hck hT
  · exact call_39 a n cap L w hL h1 h2 hv2 hck hT
  · exact call_40 a n cap L w hL h1 h2 hv2 hck hT
  · exact call_41 a n cap L w hL h1 h2 hv2 hck hT hM
  · exact call_42 a n cap L w hL h1 h2 hv2 hck hT
end Go.Proofs.YtfjefanhkbcfgaaGreatDoor.Va
/- The reference's pieces of a text are the program's. -/
namespace Go.Proofs.YtfjefanhkbcfgaaGreatDoor.Va
open Go Go.RowKit GM
set_option linter.unusedVariables false
set_option linter.unusedSimpArgs false
/-- What louvreref14.piece cuts, once from and many are known and neither too small. -/
def pieceS (s : ByteArray) (from0 many0 : Int) : ByteArray :=
  s.extract (min from0 ((s.size : Int) + 1) - 1).toNat (min from0 ((s.size : Int) + 1) - 1 + min (min many0 s.size) ((s.size : Int) - min from0 ((s.size : Int) + 1) + 1)).toNat
theorem piece_left {s : ByteArray} {k : Int} (hk : 0 ≤ k) : pieceS s 1 k = s.extract 0 (min k s.size).toNat := by
  unfold pieceS
  congr 1 <;> omega
theorem piece_right {s : ByteArray} {k : Int} (hk : 0 ≤ k) : pieceS s ((s.size : Int) - min k s.size + 1) k = s.extract ((s.size : Int) - min k s.size).toNat s.size := by
  unfold pieceS
  congr 1 <;> omega
theorem piece_mid {s : ByteArray} {f k : Int} (hf : 1 ≤ f) (hk : 0 ≤ k) : pieceS s f k = midS s f k := by
  apply ba_ext
  unfold pieceS midS
  have hz := dlen s
  rw [ext_data, ext_data, ext_data, List.drop_zero, Nat.sub_zero, List.take_take]
  have e : (min f ((s.size : Int) + 1) - 1).toNat = (min (f - 1) (s.size : Int)).toNat := by omega
  rw [e]
  congr 1
  omega
/-- The steps of louvreref14.find: k runs upwards from `from0`. -/
theorem fstP_up {X Y : List UInt8} {f k : Int} (h1 : 1 ≤ k) (hk : k ≤ (Y.length : Int) - X.length + 1) (hf : fstP X Y f = fstP X Y k) (h : ¬ (Y.drop (k - 1).toNat).take X.length = X) : fstP X Y f = fstP X Y (k + 1) := hf.trans (fstP_miss h1 hk h)
theorem find_hit {s t : ByteArray} {f k : Int} (hf1 : 1 ≤ f) (h1 : 1 ≤ k) (hk : k ≤ (t.size : Int) - s.size + 1) (hf : fstP s.data.toList t.data.toList f = fstP s.data.toList t.data.toList k) (h : (t.data.toList.drop (k - 1).toNat).take s.size = s.data.toList) : findV s t f = (1, k * 10000, ⟨#[]⟩) := by
  have e : fstP s.data.toList t.data.toList f = k := hf.trans (fstP_hit h1 (by rw [dlen, dlen]; exact hk) (by rw [dlen]; exact h))
  exact (findV_some hf1 e (by omega)).1
theorem find_end {s t : ByteArray} {f k : Int} (hk : (t.size : Int) - s.size + 1 < k) (hf : fstP s.data.toList t.data.toList f = fstP s.data.toList t.data.toList k) : findV s t f = badV :=
  findV_none (.inr (hf.trans (fstP_none (by rw [dlen, dlen]; exact hk))))
/-- What the program divides is what the reference divides. -/
theorem trunc_div (a : Int) : (truncZ a).tdiv 10000 = a.tdiv 10000 := by
  have h := Int.tdiv_mul_add_tmod a 10000
  have e : truncZ a = a.tdiv 10000 * 10000 := by unfold truncZ; omega
  rw [e]
  exact Int.mul_tdiv_cancel _ (by decide)
theorem repL_nil : ∀ k, Lib.repeatL ([] : List UInt8) k = []
  | 0 => by simp [Lib.repeatL]
  | k + 1 => by have := repL_nil k; simp_all [Lib.repeatL, List.replicate_succ]
/-- louvreref14.repeat: the text s i times, as long as it is not too long. -/
theorem rept_ref {s : ByteArray} {n : Int} (h0 : 0 ≤ n) (h : (s.size : Int) * n ≤ 256) : reptV s n = txV (repS s n.toNat) := by
  unfold reptV
  by_cases hs : s = ⟨#[]⟩
  · subst hs
    rw [if_neg (by simp; omega)]
    have e : ∀ k, repS ⟨#[]⟩ k = ⟨#[]⟩ := fun k => by
      apply ba_ext
      unfold repS
      exact repL_nil k
    rw [e, e]
  · have hz : 1 ≤ s.size := by
      rcases Nat.eq_zero_or_pos s.size with h | h
      · exact absurd (ba_ext (List.eq_nil_of_length_eq_zero ((dlen s).trans h))) hs
      · exact h
    have hn : n ≤ 256 := by
      have : n ≤ (s.size : Int) * n := by
        have := Int.mul_le_mul_of_nonneg_right (show (1 : Int) ≤ s.size by omega) h0
        omega
      omega
    rw [if_neg (by omega), show (min n 256).toNat = n.toNat by omega]
end Go.Proofs.YtfjefanhkbcfgaaGreatDoor.Va
