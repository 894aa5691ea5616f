/- The methods of ftext's arguments: concat, repeat, find. -/
import Derived.Test.YtdhahiodnmmkeaaGreatDoorMgf
import Derived.Test.YtdhahiodnmmkeaaGreatDoorShelfFt
import Derived.Test.YtdhahiodnmmkeaaGreatDoorMgc
namespace Go.Proofs.YtdhahiodnmmkeaaGreatDoor.Va
open Go Go.RowKit GM
set_option linter.unusedVariables false
set_option linter.unusedSimpArgs false
def zc3 (T : List ByteArray) : ByteArray := ⟨(Lib.join (T.map (·.data.toList)) []).toArray⟩
theorem zyw (a : Option Addr) (n c : Nat) (T : List ByteArray) (w : World) (h : IsT w a n T) (hn : n ≤ 1000) (hc : n ≤ c) (hl : (zc3 T).size ≤ 1000000) :
 Calls Tryz.prog 204 #[.slice a n c, .string ⟨#[]⟩] w fun e w' => e = .returned (.string (zc3 T)) ∧ Below w.heap.size w w' := by
 by_cases h0 : n = 0
 · subst h0
   have hT : T = [] := List.eq_nil_of_length_eq_zero h.1
   subst hT
   exact (Tryz.strings_Join_none a c ⟨#[]⟩ w).mono fun e w' ⟨he, hw⟩ => ⟨he, hw ▸ Below.refl _ _⟩
 · obtain ⟨b, off, rfl, hr⟩ := h.2 (by omega)
   have hl2 : (Lib.join (T.map (·.data.toList)) (⟨#[]⟩ : ByteArray).data.toList).length ≤ 140737488355328 := by
    have e : (zc3 T).size = (Lib.join (T.map (·.data.toList)) []).length := by unfold zc3; simp [ByteArray.size]
    rw [e] at hl
    exact Nat.le_trans hl (by decide)
   have hj := Tryz.strings_Join b off c T ⟨#[]⟩ w (fun j x hx => by
    obtain ⟨hjl, rfl⟩ := List.getElem?_eq_some_iff.1 hx
    have := hr.2 j hjl 0 _ rfl
    rwa [Nat.mul_one, Nat.add_zero] at this) hr.1 (by rw [h.1]; omega) (by rw [h.1]; exact hc) hl2
   rw [h.1] at hj
   exact hj
set_option maxHeartbeats 3200000 in
theorem yhx (ta wa : Option Addr) (tn tc wn wc : Nat) (T : List ByteArray) (W0 : List Int) (w : World) (hT : IsT w ta tn T) (hW : IsW w wa wn W0) (hn : tn ≤ 1000) (hc : tn ≤ tc) (hl : (zc3 T).size ≤ 1000000) :
 Calls Tryz.prog 157 #[.agg #[.slice ta tn tc, .slice wa wn wc]] w fun e w' => e = .returned (vOf (txV (zc3 T))) ∧ Below w.heap.size w w' := by
 have HJ := Lib.hid (fun W (h : Below w.heap.size w W) => zyw ta tn tc T W (IsOf.later hT h) hn hc hl)
 have l1 := zaa w (.cells #[.slice ta tn tc, .slice wa wn wc] 82)
 have l2 := zaa (w.alloc (.cells #[.slice ta tn tc, .slice wa wn wc] 82)) (.cells #[.int .u8 0, .int .i64 0, .string ⟨#[]⟩] 26)
 have hX := B3.start (w.alloc (.cells #[.slice ta tn tc, .slice wa wn wc] 82)) 0 0 ⟨#[]⟩
 rw [World.size_alloc] at hX
 have HX : Hid (B3 ((w.alloc (.cells #[.slice ta tn tc, .slice wa wn wc] 82)).alloc (.cells #[.int .u8 0, .int .i64 0, .string ⟨#[]⟩] 26)) (w.heap.size + 1) 0 0 ⟨#[]⟩) := hX
 have HB := Lib.hid (zab l1 l2)
 clear hX l1 l2 hT hW
 go_enter Tryz.func157, Tryz.ntmps157
 go_wp2_with fail
 refine (HJ.out _ HB.out).mono ?_
 rintro e w2 ⟨rfl, hB2⟩
 have HX2 := Lib.hid (HX.out.later hB2)
 have HB2 := Lib.hid (zab HB.out hB2)
 clear hB2 HX HB HJ
 have HX := HX2
 have HB := HB2
 clear HX2 HB2
 go_wp2_with fail
 have HV := Lib.hid (fun W => zbo (zc3 T) W)
 generalize hvv : txV (zc3 T) = vv at HV
 have HVV := Lib.hid hvv
 clear hvv
 obtain ⟨vk, vn, vs⟩ := vv
 unfold vOf at HV
 dsimp only at HV
 refine (HV.out _).mono ?_
 rintro e w1 ⟨rfl, hB⟩
 have hX : B3 w1 (w.heap.size + 1) 0 0 ⟨#[]⟩ := HX.out.later hB
 have HBW := Lib.hid (zab HB.out hB)
 obtain ⟨x0, x1, x2, z0, z1, z2⟩ := hX.cells
 have hXl := hX.lt
 obtain ⟨hq, hg⟩ := zae hX vk vn vs
 have hb5 := HBW.out.grown hg HBW.out.size (fun q hq => by injection hq with hq; omega)
 clear hB hg
 go_wp2_with fail
 generalize ((w1.setCell ⟨(w.heap.size + 1), 0, none⟩ (.int .u8 (vk : Int))).setCell ⟨(w.heap.size + 1), 1, none⟩ (.int .i64 vn)).setCell ⟨(w.heap.size + 1), 2, none⟩ (.string vs) = w5 at *
 obtain ⟨y0, y1, y2, _, _, _⟩ := hq.cells
 refine bodyPost_ret (v := .agg #[.int .u8 (vk : Int), .int .i64 vn, .string vs]) (by simp [results, Tryz.results157, go_sem, y0, y1, y2]) rfl ⟨by rw [HVV.out]; rfl, hb5⟩
def repS (s : ByteArray) (c : Nat) : ByteArray := ⟨(Lib.repeatL s.data.toList c).toArray⟩
def zdh (s : ByteArray) (n : Int) : V3 := if n < 0 ∨ (s ≠ ⟨#[]⟩ ∧ 256 < n) then badV else txV (repS s (min n 256).toNat)
set_option maxHeartbeats 3200000 in
theorem ygb (ta wa : Option Addr) (tn tc wn wc : Nat) (T : List ByteArray) (W0 : List Int) (w : World) (hT : IsT w ta tn T) (hW : IsW w wa wn W0) (s : ByteArray) (n : Int) (h0 : T[0]? = some s) (h1 : W0[0]? = some n) (hs : s.size ≤ 4096) :
 Calls Tryz.prog 158 #[.agg #[.slice ta tn tc, .slice wa wn wc]] w fun e w' => e = .returned (vOf (zdh s n)) ∧ Below w.heap.size w w' := by
 have l1 := zaa w (.cells #[.slice ta tn tc, .slice wa wn wc] 82)
 have l2 := zaa (w.alloc (.cells #[.slice ta tn tc, .slice wa wn wc] 82)) (.cells #[.int .u8 0, .int .i64 0, .string ⟨#[]⟩] 26)
 have hX := B3.start (w.alloc (.cells #[.slice ta tn tc, .slice wa wn wc] 82)) 0 0 ⟨#[]⟩
 rw [World.size_alloc] at hX
 have HX : Hid (B3 ((w.alloc (.cells #[.slice ta tn tc, .slice wa wn wc] 82)).alloc (.cells #[.int .u8 0, .int .i64 0, .string ⟨#[]⟩] 26)) (w.heap.size + 1) 0 0 ⟨#[]⟩) := hX
 have HB := Lib.hid (zab l1 l2)
 obtain ⟨hal, a0, a1⟩ := (Arg.start w (.slice ta tn tc) (.slice wa wn wc) 82).later l2
 obtain ⟨nt0, bt0, ot0, ea0, lt0, ct0⟩ := zbb (IsOf.later hT HB.out) h0
 obtain ⟨nw0, bw0, ow0, eb0, lw0, cw0⟩ := zd8 (IsOf.later hW HB.out) h1
 rw [Nat.add_zero] at ct0
 rw [Nat.add_zero] at cw0
 have EA0 := Lib.hid ea0
 clear ea0
 have EB0 := Lib.hid eb0
 clear eb0
 clear hX l1 l2 hT hW
 go_enter Tryz.func158, Tryz.ntmps158
 go_wp2_with fail
 generalize (w.alloc (.cells #[.slice ta tn tc, .slice wa wn wc] 82)).alloc (.cells #[.int .u8 0, .int .i64 0, .string ⟨#[]⟩] 26) = wa0 at *
 have ea0 := EA0.out
 have eb0 := EB0.out
 clear EA0 EB0
 subst ea0
 subst eb0
 go_quiet (fail)
 have HX1 : Hid (B3 (wa0.drewN nq) (w.heap.size + 1) 0 0 ⟨#[]⟩) := HX
 have HB1 := Lib.hid (zcc HB.out nq)
 clear HX HB ct0 lt0 nt0 cw0 lw0 nw0 hal a0 a1
 generalize wa0.drewN nq = wa1 at *
 have HX := HX1
 have HB := HB1
 clear HX1 HB1
 by_cases h : n < 0
 · have HE : Hid (zdh s n = badV) := if_pos (.inl h)
   go_wp2_with fail
   refine (zb3 2 _).mono ?_
   rw [show flN 2 = 2 from rfl]
   rintro e w1 ⟨rfl, hB⟩
   have hX : B3 w1 (w.heap.size + 1) 0 0 ⟨#[]⟩ := HX.out.later hB
   have HBW := Lib.hid (zab HB.out hB)
   obtain ⟨x0, x1, x2, z0, z1, z2⟩ := hX.cells
   have hXl := hX.lt
   obtain ⟨hq, hg⟩ := zae hX 4 2 ⟨#[]⟩
   have hb5 := HBW.out.grown hg HBW.out.size (fun q hq => by injection hq with hq; omega)
   clear hB hg
   go_wp2_with fail
   generalize ((w1.setCell ⟨(w.heap.size + 1), 0, none⟩ (.int .u8 4)).setCell ⟨(w.heap.size + 1), 1, none⟩ (.int .i64 2)).setCell ⟨(w.heap.size + 1), 2, none⟩ (.string ⟨#[]⟩) = w5 at *
   obtain ⟨y0, y1, y2, _, _, _⟩ := hq.cells
   refine bodyPost_ret (v := .agg #[.int .u8 4, .int .i64 2, .string ⟨#[]⟩]) (by simp [results, Tryz.results158, go_sem, y0, y1, y2]) rfl ⟨by rw [HE.out]; rfl, hb5⟩
 obtain ⟨c, hc'⟩ := Int.eq_ofNat_of_zero_le (show 0 ≤ min n 256 by omega)
 have hc : c ≤ 256 := by omega
 rcases zif s with rfl | ⟨e1, e2⟩
 · have HE : Hid (zdh ⟨#[]⟩ n = txV (repS ⟨#[]⟩ c)) := by unfold Hid zdh; rw [if_neg (by rintro (h | ⟨h, _⟩); omega; exact h rfl), hc']; rfl
   go_wp2_with fail
   refine (Tryz.strings_Repeat ⟨#[]⟩ c _ (by omega) (by rw [show (⟨#[]⟩ : ByteArray).size = 0 from rfl, Nat.zero_mul]; omega)).mono ?_
   rintro e w2 ⟨rfl, hB2⟩
   have HX2 := Lib.hid (HX.out.later hB2)
   have HB2 := Lib.hid (zab HB.out hB2)
   clear hB2 HX HB
   have HX := HX2
   have HB := HB2
   clear HX2 HB2
   go_wp2_with fail
   have HRS : Hid ((⟨(Lib.repeatL (⟨#[]⟩ : ByteArray).data.toList c).toArray⟩ : ByteArray) = repS ⟨#[]⟩ c) := rfl
   rw [HRS.out]
   have HV := Lib.hid (fun W => zbo (repS ⟨#[]⟩ c) W)
   generalize hvv : txV (repS ⟨#[]⟩ c) = vv at HV
   have HVV := Lib.hid hvv
   clear hvv
   obtain ⟨vk, vn, vs⟩ := vv
   unfold vOf at HV
   dsimp only at HV
   refine (HV.out _).mono ?_
   rintro e w1 ⟨rfl, hB⟩
   have hX : B3 w1 (w.heap.size + 1) 0 0 ⟨#[]⟩ := HX.out.later hB
   have HBW := Lib.hid (zab HB.out hB)
   obtain ⟨x0, x1, x2, z0, z1, z2⟩ := hX.cells
   have hXl := hX.lt
   obtain ⟨hq, hg⟩ := zae hX vk vn vs
   have hb5 := HBW.out.grown hg HBW.out.size (fun q hq => by injection hq with hq; omega)
   clear hB hg
   go_wp2_with fail
   generalize ((w1.setCell ⟨(w.heap.size + 1), 0, none⟩ (.int .u8 (vk : Int))).setCell ⟨(w.heap.size + 1), 1, none⟩ (.int .i64 vn)).setCell ⟨(w.heap.size + 1), 2, none⟩ (.string vs) = w5 at *
   obtain ⟨y0, y1, y2, _, _, _⟩ := hq.cells
   refine bodyPost_ret (v := .agg #[.int .u8 (vk : Int), .int .i64 vn, .string vs]) (by simp [results, Tryz.results158, go_sem, y0, y1, y2]) rfl ⟨by rw [HE.out, HVV.out]; rfl, hb5⟩
 · have hne : ¬ s = ⟨#[]⟩ := fun e => by subst e; simp at e1
   by_cases h' : 256 < n
   · have HE : Hid (zdh s n = badV) := if_pos (.inr ⟨hne, h'⟩)
     go_wp2_with fail
     refine (zb3 2 _).mono ?_
     rw [show flN 2 = 2 from rfl]
     rintro e w1 ⟨rfl, hB⟩
     have hX : B3 w1 (w.heap.size + 1) 0 0 ⟨#[]⟩ := HX.out.later hB
     have HBW := Lib.hid (zab HB.out hB)
     obtain ⟨x0, x1, x2, z0, z1, z2⟩ := hX.cells
     have hXl := hX.lt
     obtain ⟨hq, hg⟩ := zae hX 4 2 ⟨#[]⟩
     have hb5 := HBW.out.grown hg HBW.out.size (fun q hq => by injection hq with hq; omega)
     clear hB hg
     go_wp2_with fail
     generalize ((w1.setCell ⟨(w.heap.size + 1), 0, none⟩ (.int .u8 4)).setCell ⟨(w.heap.size + 1), 1, none⟩ (.int .i64 2)).setCell ⟨(w.heap.size + 1), 2, none⟩ (.string ⟨#[]⟩) = w5 at *
     obtain ⟨y0, y1, y2, _, _, _⟩ := hq.cells
     refine bodyPost_ret (v := .agg #[.int .u8 4, .int .i64 2, .string ⟨#[]⟩]) (by simp [results, Tryz.results158, go_sem, y0, y1, y2]) rfl ⟨by rw [HE.out]; rfl, hb5⟩
   · have HE : Hid (zdh s n = txV (repS s c)) := by unfold Hid zdh; rw [if_neg (by rintro (h | ⟨_, h⟩) <;> omega), hc']; rfl
     go_wp2_with fail
     refine (Tryz.strings_Repeat s c _ (by omega) (by have := Nat.mul_le_mul hs hc; omega)).mono ?_
     rintro e w2 ⟨rfl, hB2⟩
     have HX2 := Lib.hid (HX.out.later hB2)
     have HB2 := Lib.hid (zab HB.out hB2)
     clear hB2 HX HB
     have HX := HX2
     have HB := HB2
     clear HX2 HB2
     go_wp2_with fail
     have HRS : Hid ((⟨(Lib.repeatL (s : ByteArray).data.toList c).toArray⟩ : ByteArray) = repS s c) := rfl
     rw [HRS.out]
     have HV := Lib.hid (fun W => zbo (repS s c) W)
     generalize hvv : txV (repS s c) = vv at HV
     have HVV := Lib.hid hvv
     clear hvv
     obtain ⟨vk, vn, vs⟩ := vv
     unfold vOf at HV
     dsimp only at HV
     refine (HV.out _).mono ?_
     rintro e w1 ⟨rfl, hB⟩
     have hX : B3 w1 (w.heap.size + 1) 0 0 ⟨#[]⟩ := HX.out.later hB
     have HBW := Lib.hid (zab HB.out hB)
     obtain ⟨x0, x1, x2, z0, z1, z2⟩ := hX.cells
     have hXl := hX.lt
     obtain ⟨hq, hg⟩ := zae hX vk vn vs
     have hb5 := HBW.out.grown hg HBW.out.size (fun q hq => by injection hq with hq; omega)
     clear hB hg
     go_wp2_with fail
     generalize ((w1.setCell ⟨(w.heap.size + 1), 0, none⟩ (.int .u8 (vk : Int))).setCell ⟨(w.heap.size + 1), 1, none⟩ (.int .i64 vn)).setCell ⟨(w.heap.size + 1), 2, none⟩ (.string vs) = w5 at *
     obtain ⟨y0, y1, y2, _, _, _⟩ := hq.cells
     refine bodyPost_ret (v := .agg #[.int .u8 (vk : Int), .int .i64 vn, .string vs]) (by simp [results, Tryz.results158, go_sem, y0, y1, y2]) rfl ⟨by rw [HE.out, HVV.out]; rfl, hb5⟩
def fndI (s t : ByteArray) (f : Int) : Int := Lib.index (t.extract (f.toNat - 1) t.size).data.toList s.data.toList
def zea (s t : ByteArray) (f : Int) : V3 := if f < 1 ∨ (t.size : Int) + 1 < f then badV else if fndI s t f < 0 then badV else cnV (f - 1 + fndI s t f + 1)
theorem zrl : ∀ (l sub : List UInt8), Lib.index l sub ≤ l.length
 | [], sub => by unfold Lib.index; split <;> simp
 | b :: l, sub => by
  have ih := zrl l sub
  unfold Lib.index
  split
  · simp; omega
  · split
    · simp; omega
    · simp only [List.length_cons]; omega
set_option maxRecDepth 100000 in
set_option maxHeartbeats 3200000 in
theorem ygd (ta wa : Option Addr) (tn tc wn wc : Nat) (T : List ByteArray) (W0 : List Int) (w : World) (hT : IsT w ta tn T) (hW : IsW w wa wn W0) (s t : ByteArray) (f : Int) (h0 : T[0]? = some s) (h1 : T[1]? = some t) (h2 : W0[0]? = some f) (ht : t.size ≤ 4096) (hML : ML w) :
 Calls Tryz.prog 160 #[.agg #[.slice ta tn tc, .slice wa wn wc]] w fun e w' => e = .returned (vOf (zea s t f)) ∧ Below w.heap.size w w' := by
 have l1 := zaa w (.cells #[.slice ta tn tc, .slice wa wn wc] 82)
 have l2 := zaa (w.alloc (.cells #[.slice ta tn tc, .slice wa wn wc] 82)) (.cells #[.int .u8 0, .int .i64 0, .string ⟨#[]⟩] 26)
 have hX := B3.start (w.alloc (.cells #[.slice ta tn tc, .slice wa wn wc] 82)) 0 0 ⟨#[]⟩
 rw [World.size_alloc] at hX
 have HX : Hid (B3 ((w.alloc (.cells #[.slice ta tn tc, .slice wa wn wc] 82)).alloc (.cells #[.int .u8 0, .int .i64 0, .string ⟨#[]⟩] 26)) (w.heap.size + 1) 0 0 ⟨#[]⟩) := hX
 have HB := Lib.hid (zab l1 l2)
 obtain ⟨hal, a0, a1⟩ := (Arg.start w (.slice ta tn tc) (.slice wa wn wc) 82).later l2
 obtain ⟨nt0, bt0, ot0, ea0, lt0, ct0⟩ := zbb (IsOf.later hT HB.out) h0
 obtain ⟨nt1, bt1, ot1, ea1, lt1, ct1⟩ := zbb (IsOf.later hT HB.out) h1
 obtain ⟨nw0, bw0, ow0, eb0, lw0, cw0⟩ := zd8 (IsOf.later hW HB.out) h2
 rw [Nat.add_zero] at ct0
 rw [Nat.add_zero] at cw0
 have EA0 := Lib.hid ea0
 clear ea0
 have EA1 := Lib.hid ea1
 clear ea1
 have EB0 := Lib.hid eb0
 clear eb0
 have HML := Lib.hid (hML.later HB.out)
 clear hML
 clear hX l1 l2 hT hW
 go_enter Tryz.func160, Tryz.ntmps160
 go_wp2_with fail
 generalize (w.alloc (.cells #[.slice ta tn tc, .slice wa wn wc] 82)).alloc (.cells #[.int .u8 0, .int .i64 0, .string ⟨#[]⟩] 26) = wa0 at *
 have ea0 := EA0.out
 have ea1 := EA1.out
 have eb0 := EB0.out
 clear EA0 EA1 EB0
 subst ea0
 cases ea1
 subst eb0
 go_quiet (fail)
 have HX1 : Hid (B3 (wa0.drewN nq) (w.heap.size + 1) 0 0 ⟨#[]⟩) := HX
 have HB1 := Lib.hid (zcc HB.out nq)
 have HML1 : Hid (ML (wa0.drewN nq)) := HML
 clear HML HX HB ct0 lt0 nt0 ct1 lt1 nt1 cw0 lw0 nw0 hal a0 a1
 generalize wa0.drewN nq = wa1 at *
 have HML := HML1
 have HX := HX1
 have HB := HB1
 clear HX1 HB1
 by_cases h : f < 1
 · have HE : Hid (zea s t f = badV) := if_pos (.inl h)
   go_wp2_with fail
   refine (zb3 2 _).mono ?_
   rw [show flN 2 = 2 from rfl]
   rintro e w1 ⟨rfl, hB⟩
   have hX : B3 w1 (w.heap.size + 1) 0 0 ⟨#[]⟩ := HX.out.later hB
   have HBW := Lib.hid (zab HB.out hB)
   obtain ⟨x0, x1, x2, z0, z1, z2⟩ := hX.cells
   have hXl := hX.lt
   obtain ⟨hq, hg⟩ := zae hX 4 2 ⟨#[]⟩
   have hb5 := HBW.out.grown hg HBW.out.size (fun q hq => by injection hq with hq; omega)
   clear hB hg
   go_wp2_with fail
   generalize ((w1.setCell ⟨(w.heap.size + 1), 0, none⟩ (.int .u8 4)).setCell ⟨(w.heap.size + 1), 1, none⟩ (.int .i64 2)).setCell ⟨(w.heap.size + 1), 2, none⟩ (.string ⟨#[]⟩) = w5 at *
   obtain ⟨y0, y1, y2, _, _, _⟩ := hq.cells
   refine bodyPost_ret (v := .agg #[.int .u8 4, .int .i64 2, .string ⟨#[]⟩]) (by simp [results, Tryz.results160, go_sem, y0, y1, y2]) rfl ⟨by rw [HE.out]; rfl, hb5⟩
 have w1a : IntKind.i64.wrap ((t.size : Int) + 1) = (t.size : Int) + 1 := IntWalk.i64_in _ (by omega)
 by_cases h' : (t.size : Int) + 1 < f
 · have HE : Hid (zea s t f = badV) := if_pos (.inr h')
   go_wp2_with fail
   refine (zb3 2 _).mono ?_
   rw [show flN 2 = 2 from rfl]
   rintro e w1 ⟨rfl, hB⟩
   have hX : B3 w1 (w.heap.size + 1) 0 0 ⟨#[]⟩ := HX.out.later hB
   have HBW := Lib.hid (zab HB.out hB)
   obtain ⟨x0, x1, x2, z0, z1, z2⟩ := hX.cells
   have hXl := hX.lt
   obtain ⟨hq, hg⟩ := zae hX 4 2 ⟨#[]⟩
   have hb5 := HBW.out.grown hg HBW.out.size (fun q hq => by injection hq with hq; omega)
   clear hB hg
   go_wp2_with fail
   generalize ((w1.setCell ⟨(w.heap.size + 1), 0, none⟩ (.int .u8 4)).setCell ⟨(w.heap.size + 1), 1, none⟩ (.int .i64 2)).setCell ⟨(w.heap.size + 1), 2, none⟩ (.string ⟨#[]⟩) = w5 at *
   obtain ⟨y0, y1, y2, _, _, _⟩ := hq.cells
   refine bodyPost_ret (v := .agg #[.int .u8 4, .int .i64 2, .string ⟨#[]⟩]) (by simp [results, Tryz.results160, go_sem, y0, y1, y2]) rfl ⟨by rw [HE.out]; rfl, hb5⟩
 have w2a : IntKind.i64.wrap (f - 1) = f - 1 := IntWalk.i64_in _ (by omega)
 have w3a : 0 ≤ f - 1 := by omega
 have w4a : f - 1 ≤ (t.size : Int) := by omega
 have hE0 : zea s t f = if fndI s t f < 0 then badV else cnV (f - 1 + fndI s t f + 1) := if_neg (by omega)
 have HE0 := Lib.hid hE0
 have hi := zrl (t.extract (f.toNat - 1) t.size).data.toList s.data.toList
 have hsz : ((t.extract (f.toNat - 1) t.size).data.toList.length : Int) ≤ (t.size : Int) - (f - 1) := by
  have e : (t.extract (f.toNat - 1) t.size).data.toList.length = (t.extract (f.toNat - 1) t.size).size := Array.length_toList
  rw [e, ByteArray.size_extract]; omega
 have HI := Lib.hid (Int.le_trans hi hsz)
 have HIX : Hid (Lib.index (t.extract (f.toNat - 1) t.size).data.toList s.data.toList = fndI s t f) := rfl
 clear hE0 hi hsz
 go_wp2_with fail
 obtain ⟨_, mm, hmm⟩ := HML.out
 refine (Tryz.strings_Index _ s mm _ (by rw [ByteArray.size_extract]; omega) hmm).mono ?_
 rintro e w2 ⟨rfl, rfl⟩
 rw [HIX.out] at HI ⊢
 have hI := HI.out
 generalize fndI s t f = ix at *
 clear hmm
 by_cases hx : ix < 0
 · have HE : Hid (zea s t f = badV) := by rw [HE0.out, if_pos hx]; exact rfl
   go_wp2_with fail
   refine (zb3 2 _).mono ?_
   rw [show flN 2 = 2 from rfl]
   rintro e w1 ⟨rfl, hB⟩
   have hX : B3 w1 (w.heap.size + 1) 0 0 ⟨#[]⟩ := HX.out.later hB
   have HBW := Lib.hid (zab HB.out hB)
   obtain ⟨x0, x1, x2, z0, z1, z2⟩ := hX.cells
   have hXl := hX.lt
   obtain ⟨hq, hg⟩ := zae hX 4 2 ⟨#[]⟩
   have hb5 := HBW.out.grown hg HBW.out.size (fun q hq => by injection hq with hq; omega)
   clear hB hg
   go_wp2_with fail
   generalize ((w1.setCell ⟨(w.heap.size + 1), 0, none⟩ (.int .u8 4)).setCell ⟨(w.heap.size + 1), 1, none⟩ (.int .i64 2)).setCell ⟨(w.heap.size + 1), 2, none⟩ (.string ⟨#[]⟩) = w5 at *
   obtain ⟨y0, y1, y2, _, _, _⟩ := hq.cells
   refine bodyPost_ret (v := .agg #[.int .u8 4, .int .i64 2, .string ⟨#[]⟩]) (by simp [results, Tryz.results160, go_sem, y0, y1, y2]) rfl ⟨by rw [HE.out]; rfl, hb5⟩
 · have HE : Hid (zea s t f = cnV (f - 1 + ix + 1)) := by rw [HE0.out, if_neg hx]; exact rfl
   have w5a : IntKind.i64.wrap (f - 1 + ix) = f - 1 + ix := IntWalk.i64_in _ (by omega)
   have w6a : IntKind.i64.wrap (f - 1 + ix + 1) = f - 1 + ix + 1 := IntWalk.i64_in _ (by omega)
   go_wp2_with fail
   have HV := Lib.hid (fun W => zli (f - 1 + ix + 1) (by omega) (by omega) W)
   generalize hvv : cnV (f - 1 + ix + 1) = vv at HV
   have HVV := Lib.hid hvv
   clear hvv
   obtain ⟨vk, vn, vs⟩ := vv
   unfold vOf at HV
   dsimp only at HV
   refine (HV.out _).mono ?_
   rintro e w1 ⟨rfl, hB⟩
   have hX : B3 w1 (w.heap.size + 1) 0 0 ⟨#[]⟩ := HX.out.later hB
   have HBW := Lib.hid (zab HB.out hB)
   obtain ⟨x0, x1, x2, z0, z1, z2⟩ := hX.cells
   have hXl := hX.lt
   obtain ⟨hq, hg⟩ := zae hX vk vn vs
   have hb5 := HBW.out.grown hg HBW.out.size (fun q hq => by injection hq with hq; omega)
   clear hB hg
   go_wp2_with fail
   generalize ((w1.setCell ⟨(w.heap.size + 1), 0, none⟩ (.int .u8 (vk : Int))).setCell ⟨(w.heap.size + 1), 1, none⟩ (.int .i64 vn)).setCell ⟨(w.heap.size + 1), 2, none⟩ (.string vs) = w5 at *
   obtain ⟨y0, y1, y2, _, _, _⟩ := hq.cells
   refine bodyPost_ret (v := .agg #[.int .u8 (vk : Int), .int .i64 vn, .string vs]) (by simp [results, Tryz.results160, go_sem, y0, y1, y2]) rfl ⟨by rw [HE.out, HVV.out]; rfl, hb5⟩
end Go.Proofs.YtdhahiodnmmkeaaGreatDoor.Va
