/- The methods of ftext's arguments. -/
import Derived.Test.YtfjefanhkbcfgaaGreatDoorFtA
import Derived.Test.YtfjefanhkbcfgaaGreatDoorGlyphB
import Derived.Test.YtfjefanhkbcfgaaGreatDoorMgd
import Derived.BigQuiet
namespace Go.Proofs.YtfjefanhkbcfgaaGreatDoor.Va
open Go Go.RowKit GM
set_option linter.unusedVariables false
set_option linter.unusedSimpArgs false
/-- Two values in a block of their own. -/
def Arg (w : World) (p : Nat) (u v : Value) : Prop := p < w.heap.size ∧ w.cell? ⟨p, 0, none⟩ = some u ∧ w.cell? ⟨p, 1, none⟩ = some v
theorem Arg.start (w : World) (u v : Value) (t : TypeId) : Arg (w.alloc (.cells #[u, v] t)) w.heap.size u v := ⟨by simp, (World.cell?_alloc_at _ _ _ 0 rfl).trans rfl, (World.cell?_alloc_at _ _ _ 1 rfl).trans rfl⟩
theorem drewN_below {n : Nat} {w w1 : World} (h : Below n w w1) (k : Nat) : Below n w (w1.drewN k) := ⟨h.os, h.tape, h.output, h.size, h.block⟩
theorem Arg.later {w w' : World} {p : Nat} {u v : Value} (h : Arg w p u v) (hB : Below w.heap.size w w') : Arg w' p u v :=
  ⟨Nat.lt_of_lt_of_le h.1 hB.size, (hB.cell (p := ⟨p, 0, none⟩) h.1).trans h.2.1, (hB.cell (p := ⟨p, 1, none⟩) h.1).trans h.2.2⟩
set_option maxHeartbeats 3200000 in
theorem m_len (ta wa : Option Addr) (tn tc wn wc : Nat) (T : List ByteArray) (W0 : List Int) (w : World) (hT : IsT w ta tn T) (hW : IsW w wa wn W0) (s : ByteArray) (h0 : T[0]? = some s) (hs : s.size ≤ 4096) :
    Calls Tryz.prog 105 #[.agg #[.slice ta tn tc, .slice wa wn wc]] w fun e w' => e = .returned (vOf (cnV (s.size : Int))) ∧ Below w.heap.size w w' := by
  have l1 := valloc w (.cells #[.slice ta tn tc, .slice wa wn wc] 62)
  have l2 := valloc (w.alloc (.cells #[.slice ta tn tc, .slice wa wn wc] 62)) (.cells #[.int .u8 0, .int .i64 0, .string ⟨#[]⟩] 25)
  have hX := B3.start (w.alloc (.cells #[.slice ta tn tc, .slice wa wn wc] 62)) 0 0 ⟨#[]⟩
  rw [World.size_alloc] at hX
  have HX : Hid (B3 ((w.alloc (.cells #[.slice ta tn tc, .slice wa wn wc] 62)).alloc (.cells #[.int .u8 0, .int .i64 0, .string ⟨#[]⟩] 25)) (w.heap.size + 1) 0 0 ⟨#[]⟩) := hX
  have HB := Lib.hid (vnext l1 l2)
  obtain ⟨nt0, bt0, ot0, ea0, lt0, ct0⟩ := isT_at hT h0
  rw [Nat.add_zero] at ct0
  clear hX l1 l2 hT hW
  go_enter Tryz.func105, Tryz.ntmps105
  subst ea0
  go_wp2_with fail
  have HV := Lib.hid (fun W => fcount_any (s.size : Int) (by omega) (by omega) W)
  generalize hvv : cnV (s.size : Int) = vv at HV
  have HVV := Lib.hid hvv
  clear hvv
  obtain ⟨vk, vn, vs⟩ := vv
  unfold vOf at HV
  dsimp only at HV
  refine (HV.out _).mono ?_
  rintro e w1 ⟨rfl, hB⟩
  have hX : B3 w1 (w.heap.size + 1) 0 0 ⟨#[]⟩ := HX.out.later hB
  have HBW := Lib.hid (vnext HB.out hB)
  obtain ⟨x0, x1, x2, z0, z1, z2⟩ := hX.cells
  have hXl := hX.lt
  obtain ⟨hq, hg⟩ := b3_set hX vk vn vs
  have hb5 := HBW.out.grown hg HBW.out.size (fun q hq => by injection hq with hq; omega)
  clear hB hg
  go_wp2_with fail
  generalize ((w1.setCell ⟨(w.heap.size + 1), 0, none⟩ (.int .u8 (vk : Int))).setCell ⟨(w.heap.size + 1), 1, none⟩ (.int .i64 vn)).setCell ⟨(w.heap.size + 1), 2, none⟩ (.string vs) = w5 at *
  obtain ⟨y0, y1, y2, _, _, _⟩ := hq.cells
  refine bodyPost_ret (v := .agg #[.int .u8 (vk : Int), .int .i64 vn, .string vs]) (by simp [results, Tryz.results105, go_sem, y0, y1, y2]) rfl ⟨by rw [HVV.out]; rfl, hb5⟩
def leftV (s : ByteArray) (n : Int) : V3 := if n < 0 then badV else txV (s.extract 0 (min n s.size).toNat)
set_option maxHeartbeats 3200000 in
theorem m_left (ta wa : Option Addr) (tn tc wn wc : Nat) (T : List ByteArray) (W0 : List Int) (w : World) (hT : IsT w ta tn T) (hW : IsW w wa wn W0) (s : ByteArray) (n : Int) (h0 : T[0]? = some s) (h1 : W0[0]? = some n) (hs : s.size ≤ 4096) :
    Calls Tryz.prog 106 #[.agg #[.slice ta tn tc, .slice wa wn wc]] w fun e w' => e = .returned (vOf (leftV s n)) ∧ Below w.heap.size w w' := by
  have l1 := valloc w (.cells #[.slice ta tn tc, .slice wa wn wc] 62)
  have l2 := valloc (w.alloc (.cells #[.slice ta tn tc, .slice wa wn wc] 62)) (.cells #[.int .u8 0, .int .i64 0, .string ⟨#[]⟩] 25)
  have hX := B3.start (w.alloc (.cells #[.slice ta tn tc, .slice wa wn wc] 62)) 0 0 ⟨#[]⟩
  rw [World.size_alloc] at hX
  have HX : Hid (B3 ((w.alloc (.cells #[.slice ta tn tc, .slice wa wn wc] 62)).alloc (.cells #[.int .u8 0, .int .i64 0, .string ⟨#[]⟩] 25)) (w.heap.size + 1) 0 0 ⟨#[]⟩) := hX
  have HB := Lib.hid (vnext l1 l2)
  obtain ⟨hal, a0, a1⟩ := (Arg.start w (.slice ta tn tc) (.slice wa wn wc) 62).later l2
  obtain ⟨nt0, bt0, ot0, ea0, lt0, ct0⟩ := isT_at (IsOf.later hT HB.out) h0
  obtain ⟨nw0, bw0, ow0, eb0, lw0, cw0⟩ := isW_at (IsOf.later hW HB.out) h1
  rw [Nat.add_zero] at ct0
  rw [Nat.add_zero] at cw0
  have EA0 := Lib.hid ea0
  clear ea0
  have EB0 := Lib.hid eb0
  clear eb0
  clear hX l1 l2 hT hW
  go_enter Tryz.func106, Tryz.ntmps106
  go_wp2_with fail
  generalize (w.alloc (.cells #[.slice ta tn tc, .slice wa wn wc] 62)).alloc (.cells #[.int .u8 0, .int .i64 0, .string ⟨#[]⟩] 25) = wa0 at *
  have ea0 := EA0.out
  have eb0 := EB0.out
  clear EA0 EB0
  subst ea0
  subst eb0
  go_quiet (fail)
  have HX1 : Hid (B3 (wa0.drewN nq) (w.heap.size + 1) 0 0 ⟨#[]⟩) := HX
  have HB1 := Lib.hid (drewN_below HB.out nq)
  clear HX HB ct0 lt0 nt0 cw0 lw0 nw0 hal a0 a1
  generalize wa0.drewN nq = wa1 at *
  have HX := HX1
  have HB := HB1
  clear HX1 HB1
  by_cases h : n < 0
  · have HE : Hid (leftV s n = badV) := if_pos h
    go_wp2_with fail
    refine (fail_any 2 _).mono ?_
    rw [show flN 2 = 2 from rfl]
    rintro e w1 ⟨rfl, hB⟩
    have hX : B3 w1 (w.heap.size + 1) 0 0 ⟨#[]⟩ := HX.out.later hB
    have HBW := Lib.hid (vnext HB.out hB)
    obtain ⟨x0, x1, x2, z0, z1, z2⟩ := hX.cells
    have hXl := hX.lt
    obtain ⟨hq, hg⟩ := b3_set hX 4 2 ⟨#[]⟩
    have hb5 := HBW.out.grown hg HBW.out.size (fun q hq => by injection hq with hq; omega)
    clear hB hg
    go_wp2_with fail
    generalize ((w1.setCell ⟨(w.heap.size + 1), 0, none⟩ (.int .u8 4)).setCell ⟨(w.heap.size + 1), 1, none⟩ (.int .i64 2)).setCell ⟨(w.heap.size + 1), 2, none⟩ (.string ⟨#[]⟩) = w5 at *
    obtain ⟨y0, y1, y2, _, _, _⟩ := hq.cells
    refine bodyPost_ret (v := .agg #[.int .u8 4, .int .i64 2, .string ⟨#[]⟩]) (by simp [results, Tryz.results106, go_sem, y0, y1, y2]) rfl ⟨by rw [HE.out]; rfl, hb5⟩
  · have HE : Hid (leftV s n = txV (s.extract 0 (min n s.size).toNat)) := if_neg h
    have hm0 : 0 ≤ min n (s.size : Int) := by omega
    have hm1 : min n (s.size : Int) ≤ (s.size : Int) := by omega
    go_wp2_with fail
    have HV := Lib.hid (fun W => ftext_any (s.extract 0 (min n s.size).toNat) W)
    generalize hvv : txV (s.extract 0 (min n s.size).toNat) = vv at HV
    have HVV := Lib.hid hvv
    clear hvv
    obtain ⟨vk, vn, vs⟩ := vv
    unfold vOf at HV
    dsimp only at HV
    refine (HV.out _).mono ?_
    rintro e w1 ⟨rfl, hB⟩
    have hX : B3 w1 (w.heap.size + 1) 0 0 ⟨#[]⟩ := HX.out.later hB
    have HBW := Lib.hid (vnext HB.out hB)
    obtain ⟨x0, x1, x2, z0, z1, z2⟩ := hX.cells
    have hXl := hX.lt
    obtain ⟨hq, hg⟩ := b3_set hX vk vn vs
    have hb5 := HBW.out.grown hg HBW.out.size (fun q hq => by injection hq with hq; omega)
    clear hB hg
    go_wp2_with fail
    generalize ((w1.setCell ⟨(w.heap.size + 1), 0, none⟩ (.int .u8 (vk : Int))).setCell ⟨(w.heap.size + 1), 1, none⟩ (.int .i64 vn)).setCell ⟨(w.heap.size + 1), 2, none⟩ (.string vs) = w5 at *
    obtain ⟨y0, y1, y2, _, _, _⟩ := hq.cells
    refine bodyPost_ret (v := .agg #[.int .u8 (vk : Int), .int .i64 vn, .string vs]) (by simp [results, Tryz.results106, go_sem, y0, y1, y2]) rfl ⟨by rw [HE.out, HVV.out]; rfl, hb5⟩
def rightV (s : ByteArray) (n : Int) : V3 := if n < 0 then badV else txV (s.extract ((s.size : Int) - min n s.size).toNat s.size)
set_option maxHeartbeats 3200000 in
theorem m_right (ta wa : Option Addr) (tn tc wn wc : Nat) (T : List ByteArray) (W0 : List Int) (w : World) (hT : IsT w ta tn T) (hW : IsW w wa wn W0) (s : ByteArray) (n : Int) (h0 : T[0]? = some s) (h1 : W0[0]? = some n) (hs : s.size ≤ 4096) :
    Calls Tryz.prog 107 #[.agg #[.slice ta tn tc, .slice wa wn wc]] w fun e w' => e = .returned (vOf (rightV s n)) ∧ Below w.heap.size w w' := by
  have l1 := valloc w (.cells #[.slice ta tn tc, .slice wa wn wc] 62)
  have l2 := valloc (w.alloc (.cells #[.slice ta tn tc, .slice wa wn wc] 62)) (.cells #[.int .u8 0, .int .i64 0, .string ⟨#[]⟩] 25)
  have hX := B3.start (w.alloc (.cells #[.slice ta tn tc, .slice wa wn wc] 62)) 0 0 ⟨#[]⟩
  rw [World.size_alloc] at hX
  have HX : Hid (B3 ((w.alloc (.cells #[.slice ta tn tc, .slice wa wn wc] 62)).alloc (.cells #[.int .u8 0, .int .i64 0, .string ⟨#[]⟩] 25)) (w.heap.size + 1) 0 0 ⟨#[]⟩) := hX
  have HB := Lib.hid (vnext l1 l2)
  obtain ⟨hal, a0, a1⟩ := (Arg.start w (.slice ta tn tc) (.slice wa wn wc) 62).later l2
  obtain ⟨nt0, bt0, ot0, ea0, lt0, ct0⟩ := isT_at (IsOf.later hT HB.out) h0
  obtain ⟨nw0, bw0, ow0, eb0, lw0, cw0⟩ := isW_at (IsOf.later hW HB.out) h1
  rw [Nat.add_zero] at ct0
  rw [Nat.add_zero] at cw0
  have EA0 := Lib.hid ea0
  clear ea0
  have EB0 := Lib.hid eb0
  clear eb0
  clear hX l1 l2 hT hW
  go_enter Tryz.func107, Tryz.ntmps107
  go_wp2_with fail
  generalize (w.alloc (.cells #[.slice ta tn tc, .slice wa wn wc] 62)).alloc (.cells #[.int .u8 0, .int .i64 0, .string ⟨#[]⟩] 25) = wa0 at *
  have ea0 := EA0.out
  have eb0 := EB0.out
  clear EA0 EB0
  subst ea0
  subst eb0
  go_quiet (fail)
  have HX1 : Hid (B3 (wa0.drewN nq) (w.heap.size + 1) 0 0 ⟨#[]⟩) := HX
  have HB1 := Lib.hid (drewN_below HB.out nq)
  clear HX HB ct0 lt0 nt0 cw0 lw0 nw0 hal a0 a1
  generalize wa0.drewN nq = wa1 at *
  have HX := HX1
  have HB := HB1
  clear HX1 HB1
  by_cases h : n < 0
  · have HE : Hid (rightV s n = badV) := if_pos h
    go_wp2_with fail
    refine (fail_any 2 _).mono ?_
    rw [show flN 2 = 2 from rfl]
    rintro e w1 ⟨rfl, hB⟩
    have hX : B3 w1 (w.heap.size + 1) 0 0 ⟨#[]⟩ := HX.out.later hB
    have HBW := Lib.hid (vnext HB.out hB)
    obtain ⟨x0, x1, x2, z0, z1, z2⟩ := hX.cells
    have hXl := hX.lt
    obtain ⟨hq, hg⟩ := b3_set hX 4 2 ⟨#[]⟩
    have hb5 := HBW.out.grown hg HBW.out.size (fun q hq => by injection hq with hq; omega)
    clear hB hg
    go_wp2_with fail
    generalize ((w1.setCell ⟨(w.heap.size + 1), 0, none⟩ (.int .u8 4)).setCell ⟨(w.heap.size + 1), 1, none⟩ (.int .i64 2)).setCell ⟨(w.heap.size + 1), 2, none⟩ (.string ⟨#[]⟩) = w5 at *
    obtain ⟨y0, y1, y2, _, _, _⟩ := hq.cells
    refine bodyPost_ret (v := .agg #[.int .u8 4, .int .i64 2, .string ⟨#[]⟩]) (by simp [results, Tryz.results107, go_sem, y0, y1, y2]) rfl ⟨by rw [HE.out]; rfl, hb5⟩
  · have HE : Hid (rightV s n = txV (s.extract ((s.size : Int) - min n s.size).toNat s.size)) := if_neg h
    have hm0 : 0 ≤ min n (s.size : Int) := by omega
    have hm1 : min n (s.size : Int) ≤ (s.size : Int) := by omega
    have hm2 : IntKind.i64.wrap ((s.size : Int) - min n (s.size : Int)) = (s.size : Int) - min n (s.size : Int) := IntWalk.i64_in _ (by omega)
    have hm3 : 0 ≤ (s.size : Int) - min n (s.size : Int) := by omega
    have hm4 : (s.size : Int) - min n (s.size : Int) ≤ (s.size : Int) := by omega
    go_wp2_with fail
    have HV := Lib.hid (fun W => ftext_any (s.extract ((s.size : Int) - min n s.size).toNat s.size) W)
    generalize hvv : txV (s.extract ((s.size : Int) - min n s.size).toNat s.size) = vv at HV
    have HVV := Lib.hid hvv
    clear hvv
    obtain ⟨vk, vn, vs⟩ := vv
    unfold vOf at HV
    dsimp only at HV
    refine (HV.out _).mono ?_
    rintro e w1 ⟨rfl, hB⟩
    have hX : B3 w1 (w.heap.size + 1) 0 0 ⟨#[]⟩ := HX.out.later hB
    have HBW := Lib.hid (vnext HB.out hB)
    obtain ⟨x0, x1, x2, z0, z1, z2⟩ := hX.cells
    have hXl := hX.lt
    obtain ⟨hq, hg⟩ := b3_set hX vk vn vs
    have hb5 := HBW.out.grown hg HBW.out.size (fun q hq => by injection hq with hq; omega)
    clear hB hg
    go_wp2_with fail
    generalize ((w1.setCell ⟨(w.heap.size + 1), 0, none⟩ (.int .u8 (vk : Int))).setCell ⟨(w.heap.size + 1), 1, none⟩ (.int .i64 vn)).setCell ⟨(w.heap.size + 1), 2, none⟩ (.string vs) = w5 at *
    obtain ⟨y0, y1, y2, _, _, _⟩ := hq.cells
    refine bodyPost_ret (v := .agg #[.int .u8 (vk : Int), .int .i64 vn, .string vs]) (by simp [results, Tryz.results107, go_sem, y0, y1, y2]) rfl ⟨by rw [HE.out, HVV.out]; rfl, hb5⟩
def midS (s : ByteArray) (f n : Int) : ByteArray := (s.extract (min (f - 1) s.size).toNat s.size).extract 0 (min n ((s.size - (min (f - 1) s.size).toNat : Nat) : Int)).toNat
def midV (s : ByteArray) (f n : Int) : V3 := if f < 1 ∨ n < 0 then badV else txV (midS s f n)
set_option maxHeartbeats 3200000 in
theorem m_mid (ta wa : Option Addr) (tn tc wn wc : Nat) (T : List ByteArray) (W0 : List Int) (w : World) (hT : IsT w ta tn T) (hW : IsW w wa wn W0) (s : ByteArray) (f n : Int) (h0 : T[0]? = some s) (h1 : W0[0]? = some f) (h2 : W0[1]? = some n) (hf : f ≤ 9223372036854775807) (hs : s.size ≤ 4096) :
    Calls Tryz.prog 108 #[.agg #[.slice ta tn tc, .slice wa wn wc]] w fun e w' => e = .returned (vOf (midV s f n)) ∧ Below w.heap.size w w' := by
  have l1 := valloc w (.cells #[.slice ta tn tc, .slice wa wn wc] 62)
  have l2 := valloc (w.alloc (.cells #[.slice ta tn tc, .slice wa wn wc] 62)) (.cells #[.int .u8 0, .int .i64 0, .string ⟨#[]⟩] 25)
  have hX := B3.start (w.alloc (.cells #[.slice ta tn tc, .slice wa wn wc] 62)) 0 0 ⟨#[]⟩
  rw [World.size_alloc] at hX
  have HX : Hid (B3 ((w.alloc (.cells #[.slice ta tn tc, .slice wa wn wc] 62)).alloc (.cells #[.int .u8 0, .int .i64 0, .string ⟨#[]⟩] 25)) (w.heap.size + 1) 0 0 ⟨#[]⟩) := hX
  have HB := Lib.hid (vnext l1 l2)
  obtain ⟨hal, a0, a1⟩ := (Arg.start w (.slice ta tn tc) (.slice wa wn wc) 62).later l2
  obtain ⟨nt0, bt0, ot0, ea0, lt0, ct0⟩ := isT_at (IsOf.later hT HB.out) h0
  obtain ⟨nw0, bw0, ow0, eb0, lw0, cw0⟩ := isW_at (IsOf.later hW HB.out) h1
  obtain ⟨nw1, bw1, ow1, eb1, lw1, cw1⟩ := isW_at (IsOf.later hW HB.out) h2
  rw [Nat.add_zero] at ct0
  rw [Nat.add_zero] at cw0
  have EA0 := Lib.hid ea0
  clear ea0
  have EB0 := Lib.hid eb0
  clear eb0
  have EB1 := Lib.hid eb1
  clear eb1
  clear hX l1 l2 hT hW
  go_enter Tryz.func108, Tryz.ntmps108
  go_wp2_with fail
  generalize (w.alloc (.cells #[.slice ta tn tc, .slice wa wn wc] 62)).alloc (.cells #[.int .u8 0, .int .i64 0, .string ⟨#[]⟩] 25) = wa0 at *
  have ea0 := EA0.out
  have eb0 := EB0.out
  have eb1 := EB1.out
  clear EA0 EB0 EB1
  subst ea0
  subst eb0
  cases eb1
  go_quiet (fail)
  have HX1 : Hid (B3 (wa0.drewN nq) (w.heap.size + 1) 0 0 ⟨#[]⟩) := HX
  have HB1 := Lib.hid (drewN_below HB.out nq)
  clear HX HB ct0 lt0 nt0 cw0 lw0 nw0 cw1 lw1 nw1 hal a0 a1
  generalize wa0.drewN nq = wa1 at *
  have HX := HX1
  have HB := HB1
  clear HX1 HB1
  by_cases h : f < 1
  · have HE : Hid (midV s f n = badV) := if_pos (.inl h)
    go_wp2_with fail
    refine (fail_any 2 _).mono ?_
    rw [show flN 2 = 2 from rfl]
    rintro e w1 ⟨rfl, hB⟩
    have hX : B3 w1 (w.heap.size + 1) 0 0 ⟨#[]⟩ := HX.out.later hB
    have HBW := Lib.hid (vnext HB.out hB)
    obtain ⟨x0, x1, x2, z0, z1, z2⟩ := hX.cells
    have hXl := hX.lt
    obtain ⟨hq, hg⟩ := b3_set hX 4 2 ⟨#[]⟩
    have hb5 := HBW.out.grown hg HBW.out.size (fun q hq => by injection hq with hq; omega)
    clear hB hg
    go_wp2_with fail
    generalize ((w1.setCell ⟨(w.heap.size + 1), 0, none⟩ (.int .u8 4)).setCell ⟨(w.heap.size + 1), 1, none⟩ (.int .i64 2)).setCell ⟨(w.heap.size + 1), 2, none⟩ (.string ⟨#[]⟩) = w5 at *
    obtain ⟨y0, y1, y2, _, _, _⟩ := hq.cells
    refine bodyPost_ret (v := .agg #[.int .u8 4, .int .i64 2, .string ⟨#[]⟩]) (by simp [results, Tryz.results108, go_sem, y0, y1, y2]) rfl ⟨by rw [HE.out]; rfl, hb5⟩
  by_cases h' : n < 0
  · have HE : Hid (midV s f n = badV) := if_pos (.inr h')
    go_wp2_with fail
    refine (fail_any 2 _).mono ?_
    rw [show flN 2 = 2 from rfl]
    rintro e w1 ⟨rfl, hB⟩
    have hX : B3 w1 (w.heap.size + 1) 0 0 ⟨#[]⟩ := HX.out.later hB
    have HBW := Lib.hid (vnext HB.out hB)
    obtain ⟨x0, x1, x2, z0, z1, z2⟩ := hX.cells
    have hXl := hX.lt
    obtain ⟨hq, hg⟩ := b3_set hX 4 2 ⟨#[]⟩
    have hb5 := HBW.out.grown hg HBW.out.size (fun q hq => by injection hq with hq; omega)
    clear hB hg
    go_wp2_with fail
    generalize ((w1.setCell ⟨(w.heap.size + 1), 0, none⟩ (.int .u8 4)).setCell ⟨(w.heap.size + 1), 1, none⟩ (.int .i64 2)).setCell ⟨(w.heap.size + 1), 2, none⟩ (.string ⟨#[]⟩) = w5 at *
    obtain ⟨y0, y1, y2, _, _, _⟩ := hq.cells
    refine bodyPost_ret (v := .agg #[.int .u8 4, .int .i64 2, .string ⟨#[]⟩]) (by simp [results, Tryz.results108, go_sem, y0, y1, y2]) rfl ⟨by rw [HE.out]; rfl, hb5⟩
  have HE : Hid (midV s f n = txV (midS s f n)) := if_neg (by omega)
  have HM : Hid (midS s f n = (s.extract (min (f - 1) s.size).toNat s.size).extract 0 (min n ((s.size - (min (f - 1) s.size).toNat : Nat) : Int)).toNat) := rfl
  have hm0 : 0 ≤ min (f - 1) (s.size : Int) := by omega
  have hm1 : min (f - 1) (s.size : Int) ≤ (s.size : Int) := by omega
  have hm2 : IntKind.i64.wrap (f - 1) = f - 1 := IntWalk.i64_in _ (by omega)
  have hr0 : 0 ≤ min n ((s.size - (min (f - 1) s.size).toNat : Nat) : Int) := by omega
  have hr1 : min n ((s.size - (min (f - 1) s.size).toNat : Nat) : Int) ≤ ((s.size - (min (f - 1) s.size).toNat : Nat) : Int) := by omega
  go_wp2_with fail
  rw [← HM.out]
  have HV := Lib.hid (fun W => ftext_any (midS s f n) W)
  generalize hvv : txV (midS s f n) = vv at HV
  have HVV := Lib.hid hvv
  clear hvv
  obtain ⟨vk, vn, vs⟩ := vv
  unfold vOf at HV
  dsimp only at HV
  refine (HV.out _).mono ?_
  rintro e w1 ⟨rfl, hB⟩
  have hX : B3 w1 (w.heap.size + 1) 0 0 ⟨#[]⟩ := HX.out.later hB
  have HBW := Lib.hid (vnext HB.out hB)
  obtain ⟨x0, x1, x2, z0, z1, z2⟩ := hX.cells
  have hXl := hX.lt
  obtain ⟨hq, hg⟩ := b3_set hX vk vn vs
  have hb5 := HBW.out.grown hg HBW.out.size (fun q hq => by injection hq with hq; omega)
  clear hB hg
  go_wp2_with fail
  generalize ((w1.setCell ⟨(w.heap.size + 1), 0, none⟩ (.int .u8 (vk : Int))).setCell ⟨(w.heap.size + 1), 1, none⟩ (.int .i64 vn)).setCell ⟨(w.heap.size + 1), 2, none⟩ (.string vs) = w5 at *
  obtain ⟨y0, y1, y2, _, _, _⟩ := hq.cells
  refine bodyPost_ret (v := .agg #[.int .u8 (vk : Int), .int .i64 vn, .string vs]) (by simp [results, Tryz.results108, go_sem, y0, y1, y2]) rfl ⟨by rw [HE.out, HVV.out]; rfl, hb5⟩
set_option maxHeartbeats 3200000 in
theorem m_upper (ta wa : Option Addr) (tn tc wn wc : Nat) (T : List ByteArray) (W0 : List Int) (w : World) (hT : IsT w ta tn T) (hW : IsW w wa wn W0) (s : ByteArray) (h0 : T[0]? = some s) (hs : s.size ≤ 4096) :
    Calls Tryz.prog 109 #[.agg #[.slice ta tn tc, .slice wa wn wc]] w fun e w' => e = .returned (vOf (txV (upS s))) ∧ Below w.heap.size w w' := by
  have l1 := valloc w (.cells #[.slice ta tn tc, .slice wa wn wc] 62)
  have l2 := valloc (w.alloc (.cells #[.slice ta tn tc, .slice wa wn wc] 62)) (.cells #[.int .u8 0, .int .i64 0, .string ⟨#[]⟩] 25)
  have hX := B3.start (w.alloc (.cells #[.slice ta tn tc, .slice wa wn wc] 62)) 0 0 ⟨#[]⟩
  rw [World.size_alloc] at hX
  have HX : Hid (B3 ((w.alloc (.cells #[.slice ta tn tc, .slice wa wn wc] 62)).alloc (.cells #[.int .u8 0, .int .i64 0, .string ⟨#[]⟩] 25)) (w.heap.size + 1) 0 0 ⟨#[]⟩) := hX
  have HB := Lib.hid (vnext l1 l2)
  obtain ⟨nt0, bt0, ot0, ea0, lt0, ct0⟩ := isT_at hT h0
  rw [Nat.add_zero] at ct0
  clear hX l1 l2 hT hW
  go_enter Tryz.func109, Tryz.ntmps109
  subst ea0
  go_wp2_with fail
  refine (upper_any s (by unfold maxLen; omega) _).mono ?_
  rintro e w2 ⟨rfl, hB2⟩
  have HX2 := Lib.hid (HX.out.later hB2)
  have HB2 := Lib.hid (vnext HB.out hB2)
  clear hB2 HX HB
  have HX := HX2
  have HB := HB2
  clear HX2 HB2
  go_wp2_with fail
  have HV := Lib.hid (fun W => ftext_any (upS s) W)
  generalize hvv : txV (upS s) = vv at HV
  have HVV := Lib.hid hvv
  clear hvv
  obtain ⟨vk, vn, vs⟩ := vv
  unfold vOf at HV
  dsimp only at HV
  refine (HV.out _).mono ?_
  rintro e w1 ⟨rfl, hB⟩
  have hX : B3 w1 (w.heap.size + 1) 0 0 ⟨#[]⟩ := HX.out.later hB
  have HBW := Lib.hid (vnext HB.out hB)
  obtain ⟨x0, x1, x2, z0, z1, z2⟩ := hX.cells
  have hXl := hX.lt
  obtain ⟨hq, hg⟩ := b3_set hX vk vn vs
  have hb5 := HBW.out.grown hg HBW.out.size (fun q hq => by injection hq with hq; omega)
  clear hB hg
  go_wp2_with fail
  generalize ((w1.setCell ⟨(w.heap.size + 1), 0, none⟩ (.int .u8 (vk : Int))).setCell ⟨(w.heap.size + 1), 1, none⟩ (.int .i64 vn)).setCell ⟨(w.heap.size + 1), 2, none⟩ (.string vs) = w5 at *
  obtain ⟨y0, y1, y2, _, _, _⟩ := hq.cells
  refine bodyPost_ret (v := .agg #[.int .u8 (vk : Int), .int .i64 vn, .string vs]) (by simp [results, Tryz.results109, go_sem, y0, y1, y2]) rfl ⟨by rw [HVV.out]; rfl, hb5⟩
set_option maxHeartbeats 3200000 in
theorem m_lower (ta wa : Option Addr) (tn tc wn wc : Nat) (T : List ByteArray) (W0 : List Int) (w : World) (hT : IsT w ta tn T) (hW : IsW w wa wn W0) (s : ByteArray) (h0 : T[0]? = some s) (hs : s.size ≤ 4096) :
    Calls Tryz.prog 110 #[.agg #[.slice ta tn tc, .slice wa wn wc]] w fun e w' => e = .returned (vOf (txV (loS s))) ∧ Below w.heap.size w w' := by
  have l1 := valloc w (.cells #[.slice ta tn tc, .slice wa wn wc] 62)
  have l2 := valloc (w.alloc (.cells #[.slice ta tn tc, .slice wa wn wc] 62)) (.cells #[.int .u8 0, .int .i64 0, .string ⟨#[]⟩] 25)
  have hX := B3.start (w.alloc (.cells #[.slice ta tn tc, .slice wa wn wc] 62)) 0 0 ⟨#[]⟩
  rw [World.size_alloc] at hX
  have HX : Hid (B3 ((w.alloc (.cells #[.slice ta tn tc, .slice wa wn wc] 62)).alloc (.cells #[.int .u8 0, .int .i64 0, .string ⟨#[]⟩] 25)) (w.heap.size + 1) 0 0 ⟨#[]⟩) := hX
  have HB := Lib.hid (vnext l1 l2)
  obtain ⟨nt0, bt0, ot0, ea0, lt0, ct0⟩ := isT_at hT h0
  rw [Nat.add_zero] at ct0
  clear hX l1 l2 hT hW
  go_enter Tryz.func110, Tryz.ntmps110
  subst ea0
  go_wp2_with fail
  refine (lower_any s (by unfold maxLen; omega) _).mono ?_
  rintro e w2 ⟨rfl, hB2⟩
  have HX2 := Lib.hid (HX.out.later hB2)
  have HB2 := Lib.hid (vnext HB.out hB2)
  clear hB2 HX HB
  have HX := HX2
  have HB := HB2
  clear HX2 HB2
  go_wp2_with fail
  have HV := Lib.hid (fun W => ftext_any (loS s) W)
  generalize hvv : txV (loS s) = vv at HV
  have HVV := Lib.hid hvv
  clear hvv
  obtain ⟨vk, vn, vs⟩ := vv
  unfold vOf at HV
  dsimp only at HV
  refine (HV.out _).mono ?_
  rintro e w1 ⟨rfl, hB⟩
  have hX : B3 w1 (w.heap.size + 1) 0 0 ⟨#[]⟩ := HX.out.later hB
  have HBW := Lib.hid (vnext HB.out hB)
  obtain ⟨x0, x1, x2, z0, z1, z2⟩ := hX.cells
  have hXl := hX.lt
  obtain ⟨hq, hg⟩ := b3_set hX vk vn vs
  have hb5 := HBW.out.grown hg HBW.out.size (fun q hq => by injection hq with hq; omega)
  clear hB hg
  go_wp2_with fail
  generalize ((w1.setCell ⟨(w.heap.size + 1), 0, none⟩ (.int .u8 (vk : Int))).setCell ⟨(w.heap.size + 1), 1, none⟩ (.int .i64 vn)).setCell ⟨(w.heap.size + 1), 2, none⟩ (.string vs) = w5 at *
  obtain ⟨y0, y1, y2, _, _, _⟩ := hq.cells
  refine bodyPost_ret (v := .agg #[.int .u8 (vk : Int), .int .i64 vn, .string vs]) (by simp [results, Tryz.results110, go_sem, y0, y1, y2]) rfl ⟨by rw [HVV.out]; rfl, hb5⟩
def exactV (s t : ByteArray) : V3 := (2, b2i (decide (s = t)), ⟨#[]⟩)
theorem tl_eq (s t : ByteArray) : (s.toList == t.toList) = decide (s = t) := by
  rw [ByteArray.toList_eq, ByteArray.toList_eq]
  by_cases h : s = t
  · subst h; simp
  · rw [decide_eq_false h, beq_eq_false_iff_ne]; intro e; exact h (ByteArray.ext (Array.toList_inj.1 e))
attribute [local simp] DepA isB rsAt
set_option maxRecDepth 100000 in
set_option maxHeartbeats 3200000 in
theorem m_exact (ta wa : Option Addr) (tn tc wn wc : Nat) (T : List ByteArray) (W0 : List Int) (w : World) (hT : IsT w ta tn T) (hW : IsW w wa wn W0) (s t : ByteArray) (h0 : T[0]? = some s) (h1 : T[1]? = some t) :
    Calls Tryz.prog 114 #[.agg #[.slice ta tn tc, .slice wa wn wc]] w fun e w' => e = .returned (vOf (exactV s t)) ∧ Below w.heap.size w w' := by
  have l1 := valloc w (.cells #[.slice ta tn tc, .slice wa wn wc] 62)
  have l2 := valloc (w.alloc (.cells #[.slice ta tn tc, .slice wa wn wc] 62)) (.cells #[.int .u8 0, .int .i64 0, .string ⟨#[]⟩] 25)
  have hX := B3.start (w.alloc (.cells #[.slice ta tn tc, .slice wa wn wc] 62)) 0 0 ⟨#[]⟩
  rw [World.size_alloc] at hX
  have HX : Hid (B3 ((w.alloc (.cells #[.slice ta tn tc, .slice wa wn wc] 62)).alloc (.cells #[.int .u8 0, .int .i64 0, .string ⟨#[]⟩] 25)) (w.heap.size + 1) 0 0 ⟨#[]⟩) := hX
  have HB := Lib.hid (vnext l1 l2)
  obtain ⟨hal, a0, a1⟩ := (Arg.start w (.slice ta tn tc) (.slice wa wn wc) 62).later l2
  obtain ⟨nt0, bt0, ot0, ea0, lt0, ct0⟩ := isT_at (IsOf.later hT HB.out) h0
  obtain ⟨nt1, bt1, ot1, ea1, lt1, ct1⟩ := isT_at (IsOf.later hT HB.out) h1
  rw [Nat.add_zero] at ct0
  have EA0 := Lib.hid ea0
  clear ea0
  have EA1 := Lib.hid ea1
  clear ea1
  clear hX l1 l2 hT hW
  go_enter Tryz.func114, Tryz.ntmps114
  go_wp2_with fail
  generalize (w.alloc (.cells #[.slice ta tn tc, .slice wa wn wc] 62)).alloc (.cells #[.int .u8 0, .int .i64 0, .string ⟨#[]⟩] 25) = wa0 at *
  have ea0 := EA0.out
  have ea1 := EA1.out
  clear EA0 EA1
  subst ea0
  cases ea1
  obtain ⟨bb, hbb⟩ : ∃ bb, decide (s = t) = bb := ⟨_, rfl⟩
  have HV : Hid (exactV s t = (2, b2i bb, ⟨#[]⟩)) := by unfold Hid exactV; rw [hbb]
  have hbb2 : (s.toList == t.toList) = bb := by rw [← hbb]; exact tl_eq s t
  have i1 : (1 : Int) < (tn : Int) := by omega
  have HT := Lib.hid (fun W => truth_any bb W)
  generalize b2i bb = bn at *
  refine wp_region_sts 10 (fun X => Below wa0.heap.size wa0 X) ((fun (q0 act : Act) (T : Nat → Bool) (X : World) => act = q0 ∧ B3 X (w.heap.size + 1) (if T 10 then 2 else 0) (if T 10 then bn else 0) ⟨#[]⟩ ∧ Below w.heap.size w X) ?act) (fun W W2 hB h1 => Below.next h1 hB) (by kernel_rfl) (by kernel_rfl) (by kernel_rfl) (by kernel_rfl) (by decide) (Below.refl _ wa0).drew ?pre ?sto ?fin
  case pre =>
    simp only [List.take, putsL, Act.put, List.setIfInBounds_toArray, List.set_cons_zero, List.set_cons_succ, Nat.zero_add, Nat.reduceAdd]
    refine seqi_run ?_ (fun vs W hD => (by first | rfl | (simp at hD; simp [Region.wanted, yielded, hD]))) (fun vs W hS hD => ?_) ?_
    rotate_left
    · have z0 := (hS.cell (p := ⟨w.heap.size, 0, none⟩) hal).trans a0; have y0 := (hS.cell (p := ⟨bt0, ot0, none⟩) lt0).trans ct0; have y1 := (hS.cell (p := ⟨bt0, ot0 + 1, none⟩) lt0).trans ct1; have zl := Nat.lt_of_lt_of_le hal hS.size; have yl := Nat.lt_of_lt_of_le lt0 hS.size; obtain _ := hS; (try simp at hD); (try simp only [hD]); (first | (go_simp; done) | (go_simp; rfl))
    simp only [List.nil_append, List.cons_append]
    refine seqi_run ?_ (fun vs W hD => (by first | rfl | (simp at hD; simp [Region.wanted, yielded, hD]))) (fun vs W hS hD => ?_) ?_
    rotate_left
    · have z0 := (hS.cell (p := ⟨w.heap.size, 0, none⟩) hal).trans a0; have y0 := (hS.cell (p := ⟨bt0, ot0, none⟩) lt0).trans ct0; have y1 := (hS.cell (p := ⟨bt0, ot0 + 1, none⟩) lt0).trans ct1; have zl := Nat.lt_of_lt_of_le hal hS.size; have yl := Nat.lt_of_lt_of_le lt0 hS.size; obtain _ := hS; (try simp at hD); (try simp only [hD]); (first | (go_simp; done) | (go_simp; rfl))
    simp only [List.nil_append, List.cons_append]
    refine seqi_run ?_ (fun vs W hD => (by first | rfl | (simp at hD; simp [Region.wanted, yielded, hD]))) (fun vs W hS hD => ?_) ?_
    rotate_left
    · have z0 := (hS.cell (p := ⟨w.heap.size, 0, none⟩) hal).trans a0; have y0 := (hS.cell (p := ⟨bt0, ot0, none⟩) lt0).trans ct0; have y1 := (hS.cell (p := ⟨bt0, ot0 + 1, none⟩) lt0).trans ct1; have zl := Nat.lt_of_lt_of_le hal hS.size; have yl := Nat.lt_of_lt_of_le lt0 hS.size; obtain _ := hS; (try simp at hD); (try simp only [hD]); (first | (go_simp; done) | (go_simp; rfl))
    simp only [List.nil_append, List.cons_append]
    refine seqi_run ?_ (fun vs W hD => (by first | rfl | (simp at hD; simp [Region.wanted, yielded, hD]))) (fun vs W hS hD => ?_) ?_
    rotate_left
    · have z0 := (hS.cell (p := ⟨w.heap.size, 0, none⟩) hal).trans a0; have y0 := (hS.cell (p := ⟨bt0, ot0, none⟩) lt0).trans ct0; have y1 := (hS.cell (p := ⟨bt0, ot0 + 1, none⟩) lt0).trans ct1; have zl := Nat.lt_of_lt_of_le hal hS.size; have yl := Nat.lt_of_lt_of_le lt0 hS.size; obtain _ := hS; (try simp at hD); (try simp only [hD]); (first | (go_simp; done) | (go_simp; rfl))
    simp only [List.nil_append, List.cons_append]
    refine seqi_run ?_ (fun vs W hD => (by first | rfl | (simp at hD; simp [Region.wanted, yielded, hD]))) (fun vs W hS hD => ?_) ?_
    rotate_left
    · have z0 := (hS.cell (p := ⟨w.heap.size, 0, none⟩) hal).trans a0; have y0 := (hS.cell (p := ⟨bt0, ot0, none⟩) lt0).trans ct0; have y1 := (hS.cell (p := ⟨bt0, ot0 + 1, none⟩) lt0).trans ct1; have zl := Nat.lt_of_lt_of_le hal hS.size; have yl := Nat.lt_of_lt_of_le lt0 hS.size; obtain _ := hS; (try simp at hD); (try simp only [hD]); (first | (go_simp; done) | (go_simp; rfl))
    simp only [List.nil_append, List.cons_append]
    refine seqi_run ?_ (fun vs W hD => (by first | rfl | (simp at hD; simp [Region.wanted, yielded, hD]))) (fun vs W hS hD => ?_) ?_
    rotate_left
    · have z0 := (hS.cell (p := ⟨w.heap.size, 0, none⟩) hal).trans a0; have y0 := (hS.cell (p := ⟨bt0, ot0, none⟩) lt0).trans ct0; have y1 := (hS.cell (p := ⟨bt0, ot0 + 1, none⟩) lt0).trans ct1; have zl := Nat.lt_of_lt_of_le hal hS.size; have yl := Nat.lt_of_lt_of_le lt0 hS.size; obtain _ := hS; (try simp at hD); (try simp only [hD]); (first | (go_simp; done) | (go_simp; rfl))
    simp only [List.nil_append, List.cons_append]
    refine seqi_run ?_ (fun vs W hD => (by first | rfl | (simp at hD; simp [Region.wanted, yielded, hD]))) (fun vs W hS hD => ?_) ?_
    rotate_left
    · have z0 := (hS.cell (p := ⟨w.heap.size, 0, none⟩) hal).trans a0; have y0 := (hS.cell (p := ⟨bt0, ot0, none⟩) lt0).trans ct0; have y1 := (hS.cell (p := ⟨bt0, ot0 + 1, none⟩) lt0).trans ct1; have zl := Nat.lt_of_lt_of_le hal hS.size; have yl := Nat.lt_of_lt_of_le lt0 hS.size; obtain _ := hS; (try simp at hD); (try simp only [hD]); (first | (go_simp; done) | (go_simp; rfl))
    simp only [List.nil_append, List.cons_append]
    refine seqi_run ?_ (fun vs W hD => (by first | rfl | (simp at hD; simp [Region.wanted, yielded, hD]))) (fun vs W hS hD => ?_) ?_
    rotate_left
    · have z0 := (hS.cell (p := ⟨w.heap.size, 0, none⟩) hal).trans a0; have y0 := (hS.cell (p := ⟨bt0, ot0, none⟩) lt0).trans ct0; have y1 := (hS.cell (p := ⟨bt0, ot0 + 1, none⟩) lt0).trans ct1; have zl := Nat.lt_of_lt_of_le hal hS.size; have yl := Nat.lt_of_lt_of_le lt0 hS.size; obtain _ := hS; (try simp at hD); (try simp only [hD]); (first | (go_simp; done) | (go_simp; rfl))
    simp only [List.nil_append, List.cons_append]
    refine seqi_run (.bool bb) (fun vs W hD => (by first | rfl | (simp at hD; simp [Region.wanted, yielded, hD]))) (fun vs W hS hD => ?_) ?_
    · have z0 := (hS.cell (p := ⟨w.heap.size, 0, none⟩) hal).trans a0; have y0 := (hS.cell (p := ⟨bt0, ot0, none⟩) lt0).trans ct0; have y1 := (hS.cell (p := ⟨bt0, ot0 + 1, none⟩) lt0).trans ct1; have zl := Nat.lt_of_lt_of_le hal hS.size; have yl := Nat.lt_of_lt_of_le lt0 hS.size; obtain _ := hS; (try simp at hD); (try simp only [hD]); (first | (go_simp; done) | (go_simp; rfl))
    simp only [List.nil_append, List.cons_append]
    refine seqi_call (f := 60) (fun v _ => v = .agg #[.int .u8 2, .int .i64 bn, .string ⟨#[]⟩]) (stable_val _) (fun vs => #[.bool bb]) (fun vs W hD => (by first | rfl | (simp at hD; simp [Region.wanted, yielded, hD]))) (fun vs W hS hD => ?_) (fun vs W hS hD => ?_) ?_
    · obtain _ := hS; (try simp at hD); (try simp only [hD]); go_simp; done
    · exact (HT.out W).mono fun e W' ⟨he, hB⟩ => ⟨⟨_, he, rfl⟩, hB⟩
    simp only [List.nil_append, List.cons_append]
    refine seqi_end fun vs W hS hv => ?_
    simp only [AllF, Nat.zero_add, Nat.reduceAdd] at hv
    obtain ⟨h0, h1, h2, h3, h4, h5, h6, h7, h8, h9, _⟩ := hv
    simp only [h0, h1, h2, h3, h4, h5, h6, h7, h8, h9]
    refine ⟨?_, HX.out.later hS, Below.next HB.out hS⟩
    rfl
  case sto =>
    rintro i o act T X ho hi hTi ⟨rfl, hX1, hX3⟩
    match i, hi with
    | 10, _ =>
      obtain rfl := Option.some.inj ho
      refine ⟨rfl, ?_⟩
      rw [hTi] at hX1
      simp only [Bool.false_eq_true, if_false] at hX1
      obtain ⟨c0, c1, c2, f0, f1, f2⟩ := hX1.cells
      have hl := hX1.lt
      obtain ⟨q1, q2⟩ := b3_set hX1 2 bn ⟨#[]⟩
      have hB : Below w.heap.size w (((X.setCell ⟨w.heap.size + 1, 0, none⟩ (.int .u8 2)).setCell ⟨w.heap.size + 1, 1, none⟩ (.int .i64 bn)).setCell ⟨w.heap.size + 1, 2, none⟩ (.string ⟨#[]⟩)) := hX3.grown q2 hX3.size (fun q hq => by injection hq with hq; omega)
      unfold OperR
      go_simp
      exact q1
    | j + 11, _ => cases ho
  case fin =>
    rintro act T X hT ⟨rfl, hX1, hX3⟩
    rw [hT 10 (by decide) (by decide)] at hX1
    simp only [if_true] at hX1
    have HB4 := Lib.hid hX3
    obtain ⟨y0, y1, y2, _, _, _⟩ := hX1.cells
    clear hX3
    go_wp2_with fail
    refine bodyPost_ret (v := .agg #[.int .u8 2, .int .i64 bn, .string ⟨#[]⟩]) (by simp [results, Tryz.results114, go_sem, y0, y1, y2]) rfl ⟨by rw [HV.out]; rfl, HB4.out⟩
end Go.Proofs.YtfjefanhkbcfgaaGreatDoor.Va
