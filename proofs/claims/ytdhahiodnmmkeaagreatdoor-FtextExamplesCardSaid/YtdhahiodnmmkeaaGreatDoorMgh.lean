/- Merged: FtL FtM FtY. -/
import Derived.Test.YtdhahiodnmmkeaaGreatDoorFtX
import Derived.Test.YtdhahiodnmmkeaaGreatDoorMgd
import Derived.Test.YtdhahiodnmmkeaaGreatDoorFtC
import Derived.Test.YtdhahiodnmmkeaaGreatDoorMgc
import Derived.Test.YtdhahiodnmmkeaaGreatDoorValZn
/- ftext: pieces of a text. -/
namespace Go.Proofs.YtdhahiodnmmkeaaGreatDoor.Va
open Go Go.RowKit GM
set_option linter.unusedVariables false
set_option linter.unusedSimpArgs false
theorem zcs (s : ByteArray) (i j : Nat) : (s.extract i j).data.toList = (s.data.toList.drop i).take (j - i) := by
 rw [ByteArray.data_extract, Array.toList_extract]
theorem zgm {s t : ByteArray} (h : s.data.toList = t.data.toList) : s = t := ByteArray.ext (Array.toList_inj.1 h)
theorem pieces {P : ByteArray} {N : Nat} : P.extract 0 (min (N : Int) P.size).toNat ++ midS P ((N : Int) + 1) P.size = P := by
 apply zgm
 unfold midS
 rw [zzt, zcs, zcs, zcs, show ((N : Int) + 1 - 1) = (N : Int) by omega]
 have hz := dlen P
 have e : (min (N : Int) (P.size : Int)).toNat = min N P.size := by omega
 rw [e]
 generalize P.data.toList = l at *
 generalize P.size = z at *
 have e2 : (min (z : Int) ((z - min N z : Nat) : Int)).toNat = z - min N z := by omega
 rw [e2, List.drop_zero, Nat.sub_zero, Nat.sub_zero, List.drop_zero, List.take_take, Nat.min_self, List.take_of_length_le (i := z - min N z) (by rw [List.length_drop]; omega)]
 exact List.take_append_drop _ l
def St (w X : World) (L : List (Nat × V3)) : Prop := Below w.heap.size w X ∧ ∀ q ∈ L, B3 X q.1 q.2.1 q.2.2.1 q.2.2.2
theorem St.next {w X X2 : World} {L : List (Nat × V3)} (h : St w X L) (hB : Below X.heap.size X X2) : St w X2 L := ⟨zab h.1 hB, fun q hq => (h.2 q hq).later hB⟩
theorem St.add {w X : World} {L : List (Nat × V3)} (h : St w X L) (v : V3) : St w (X.alloc (.cells #[.int .u8 (v.1 : Int), .int .i64 v.2.1, .string v.2.2] 26)) ((X.heap.size, v) :: L) :=
 ⟨zab h.1 (zaa _ _), fun q hq => by
  rcases List.mem_cons.1 hq with rfl | hq
  · exact B3.start _ _ _ _
  · exact (h.2 q hq).later (zaa _ _)⟩
theorem St.drew {w X : World} {L : List (Nat × V3)} (h : St w X L) : St w { heap := X.heap, tape := X.tape, drawn := X.drawn + 1, os := X.os, output := X.output } L := ⟨h.1.drew, h.2⟩
theorem St.tv {w X : World} {L : List (Nat × V3)} (h : St w X L) {p : Nat} {A : ByteArray} (hm : (p, tv A) ∈ L) : X.cell? ⟨p, 0, none⟩ = some (.int .u8 3) ∧ X.cell? ⟨p, 1, none⟩ = some (.int .i64 0) ∧ X.cell? ⟨p, 2, none⟩ = some (.string A) ∧ p < X.heap.size :=
 have b : B3 X p 3 0 A := h.2 _ hm
 ⟨b.cells.1, b.cells.2.1, b.cells.2.2.1, b.lt⟩
end Go.Proofs.YtdhahiodnmmkeaaGreatDoor.Va
/- ftext: FIND from any number on; the first place. -/
namespace Go.Proofs.YtdhahiodnmmkeaaGreatDoor.Va
open Go Go.RowKit GM
set_option linter.unusedVariables false
set_option linter.unusedSimpArgs false
theorem zdo (a : UInt8) (l s : List UInt8) : Lib.index (a :: l) s = if s.isPrefixOf (a :: l) = true then 0 else if (Lib.index l s == -1) = true then -1 else Lib.index l s + 1 := by
 rw [Lib.index.eq_def]
theorem zgf (s : List UInt8) : Lib.index [] s = if s.isEmpty = true then 0 else -1 := by
 rw [Lib.index.eq_def]
theorem zib : ∀ (l s : List UInt8), -1 ≤ Lib.index l s
 | [], s => by rw [zgf]; split <;> omega
 | a :: l, s => by
  have := zib l s
  rw [zdo]
  split
  · omega
  · split <;> omega
theorem pre_take {s l : List UInt8} : s.isPrefixOf l = true ↔ l.take s.length = s := by
 rw [List.isPrefixOf_iff_prefix, List.prefix_iff_eq_take]
 exact eq_comm
theorem zv5 {l s : List UInt8} (h : l.take s.length = s) : Lib.index l s = 0 := by
 cases l with
 | nil => rw [zgf, if_pos]; simp at h; simp [h]
 | cons a l => rw [zdo, if_pos (pre_take.2 h)]
theorem zfi : ∀ (l s : List UInt8), l.length < s.length → Lib.index l s = -1
 | [], s, h => by rw [zgf, if_neg]; cases s <;> simp at h ⊢
 | a :: l, s, h => by
  rw [zdo, if_neg, if_pos]
  · rw [zfi l s (by simp at h; omega)]; rfl
  · intro hp
    have := congrArg List.length (pre_take.1 hp)
    rw [List.length_take] at this
    omega
theorem zrm : ∀ (l s : List UInt8), 0 ≤ Lib.index l s → (l.drop (Lib.index l s).toNat).take s.length = s ∧ (Lib.index l s).toNat ≤ l.length
 | [], s, h => by
  rw [zgf] at h ⊢
  split at h
  · next e => rw [if_pos e]; simp at e; simp [e]
  · omega
 | a :: l, s, h => by
  have lo := zib l s
  rw [zdo] at h ⊢
  by_cases hp : s.isPrefixOf (a :: l) = true
  · rw [if_pos hp]; exact ⟨pre_take.1 hp, by simp⟩
  · rw [if_neg hp] at h ⊢
    by_cases hm : (Lib.index l s == -1) = true
    · rw [if_pos hm] at h; omega
    · rw [if_neg hm] at h ⊢
      have hm' : Lib.index l s ≠ -1 := by simpa using hm
      obtain ⟨h1, h2⟩ := zrm l s (by omega)
      have e : (Lib.index l s + 1).toNat = (Lib.index l s).toNat + 1 := by omega
      rw [e, List.drop_succ_cons]
      exact ⟨h1, by simp; omega⟩
def fstP (X Y : List UInt8) (k : Int) : Int := if (Y.length : Int) - X.length + 1 < k then 0 else if Lib.index (Y.drop (k - 1).toNat) X < 0 then 0 else k + Lib.index (Y.drop (k - 1).toNat) X
theorem zv9 {X Y : List UInt8} {k : Int} (h : (Y.length : Int) - X.length + 1 < k) : fstP X Y k = 0 := if_pos h
theorem zy2 {X Y : List UInt8} {k : Int} (h1 : 1 ≤ k) (hk : k ≤ (Y.length : Int) - X.length + 1) (h : (Y.drop (k - 1).toNat).take X.length = X) : fstP X Y k = k := by
 unfold fstP
 rw [if_neg (by omega), zv5 h]
 simp
theorem zwa {X Y : List UInt8} {k : Int} (h1 : 1 ≤ k) (hk : k ≤ (Y.length : Int) - X.length + 1) (h : ¬ (Y.drop (k - 1).toNat).take X.length = X) : fstP X Y k = fstP X Y (k + 1) := by
 have hX : X ≠ [] := fun e => h (by rw [e]; simp)
 have hx0 : 0 < X.length := List.length_pos_iff.2 hX
 have hlt : (k - 1).toNat < Y.length := by omega
 have lo := zib (Y.drop k.toNat) X
 have e : Y.drop (k - 1).toNat = Y[(k - 1).toNat] :: Y.drop k.toNat := by
  rw [List.drop_eq_getElem_cons hlt]
  congr 2
  omega
 have hnp : ¬ X.isPrefixOf (Y.drop (k - 1).toNat) = true := fun hp => h (pre_take.1 hp)
 have hi : Lib.index (Y.drop (k - 1).toNat) X = if (Lib.index (Y.drop k.toNat) X == -1) = true then -1 else Lib.index (Y.drop k.toNat) X + 1 := by
  rw [e, zdo, if_neg (by rw [← e]; exact hnp)]
 unfold fstP
 rw [if_neg (by omega), show k + 1 - 1 = k by omega]
 by_cases hk2 : (Y.length : Int) - X.length + 1 < k + 1
 · rw [if_pos hk2]
   have := zfi (Y.drop k.toNat) X (by rw [List.length_drop]; omega)
   rw [this] at hi
   rw [if_pos (by rw [hi]; decide)]
 · rw [if_neg hk2, hi]
   by_cases hm : Lib.index (Y.drop k.toNat) X = -1
   · rw [hm]; simp
   · rw [if_neg (show ¬ (Lib.index (Y.drop k.toNat) X == -1) = true by simpa using hm), if_neg (show ¬ (Lib.index (Y.drop k.toNat) X + 1 < 0) by omega), if_neg (show ¬ (Lib.index (Y.drop k.toNat) X < 0) by omega)]
     omega
theorem zlg {s t : ByteArray} {f : Int} (h : f < 1 ∨ fstP s.data.toList t.data.toList f = 0) : zea s t f = badV := by
 unfold zea
 by_cases h1 : f < 1 ∨ (t.size : Int) + 1 < f
 · rw [if_pos h1]
 · rw [if_neg h1]
   have h2 := h.resolve_left (fun e => h1 (.inl e))
   unfold fstP at h2
   have e : (t.extract (f.toNat - 1) t.size).data.toList = t.data.toList.drop (f - 1).toNat := by
    rw [zcs, show f.toNat - 1 = (f - 1).toNat by omega, List.take_of_length_le]
    rw [List.length_drop, dlen]; omega
   unfold fndI
   rw [e]
   rw [dlen, dlen] at h2
   by_cases h3 : (t.size : Int) - s.size + 1 < f
   · have := zfi (t.data.toList.drop (f - 1).toNat) s.data.toList (by rw [List.length_drop, dlen, dlen]; omega)
     rw [if_pos (by rw [this]; decide)]
   · rw [if_neg h3] at h2
     by_cases h4 : Lib.index (t.data.toList.drop (f - 1).toNat) s.data.toList < 0
     · rw [if_pos h4]
     · rw [if_neg h4] at h2; omega
theorem zs6 {s t : ByteArray} {f p : Int} (hf : 1 ≤ f) (h : fstP s.data.toList t.data.toList f = p) (hp : p ≠ 0) : zea s t f = (1, p * 10000, ⟨#[]⟩) ∧ 1 ≤ p ∧ p ≤ (t.size : Int) + 1 ∧ (t.data.toList.drop (p - 1).toNat).take s.size = s.data.toList := by
 unfold fstP at h
 rw [dlen, dlen] at h
 by_cases h3 : (t.size : Int) - s.size + 1 < f
 · rw [if_pos h3] at h; omega
 rw [if_neg h3] at h
 have e : (t.extract (f.toNat - 1) t.size).data.toList = t.data.toList.drop (f - 1).toNat := by
  rw [zcs, show f.toNat - 1 = (f - 1).toNat by omega, List.take_of_length_le]
  rw [List.length_drop, dlen]; omega
 have lo := zib (t.data.toList.drop (f - 1).toNat) s.data.toList
 by_cases h4 : Lib.index (t.data.toList.drop (f - 1).toNat) s.data.toList < 0
 · rw [if_pos h4] at h; omega
 rw [if_neg h4] at h
 obtain ⟨a1, a2⟩ := zrm _ _ (by omega : 0 ≤ Lib.index (t.data.toList.drop (f - 1).toNat) s.data.toList)
 rw [List.length_drop, dlen] at a2
 rw [List.drop_drop, dlen] at a1
 refine ⟨?_, by omega, by omega, ?_⟩
 · unfold zea fndI
   rw [if_neg (by omega), e, if_neg (by omega)]
   unfold cnV
   rw [show f - 1 + Lib.index (t.data.toList.drop (f - 1).toNat) s.data.toList + 1 = p by omega]
 · rw [show (p - 1).toNat = (f - 1).toNat + (Lib.index (t.data.toList.drop (f - 1).toNat) s.data.toList).toNat by omega]
   exact a1
end Go.Proofs.YtdhahiodnmmkeaaGreatDoor.Va
/- Merged: FtO FtP FtQ FtR FtS FtU. -/
/- ftext: the methods trim and value. -/
namespace Go.Proofs.YtdhahiodnmmkeaaGreatDoor.Va
open Go Go.RowKit GM
set_option linter.unusedVariables false
set_option linter.unusedSimpArgs false
def trimS (s : ByteArray) : ByteArray := str (trim s.data.toList)
set_option maxHeartbeats 3200000 in
theorem yga (ta wa : Option Addr) (tn tc wn wc : Nat) (T : List ByteArray) (W0 : List Int) (w : World) (hT : IsT w ta tn T) (hW : IsW w wa wn W0) (s : ByteArray) (h0 : T[0]? = some s) (hs : s.size ≤ 4000) :
 Calls Tryz.prog 156 #[.agg #[.slice ta tn tc, .slice wa wn wc]] w fun e w' => e = .returned (vOf (txV (trimS s))) ∧ Below w.heap.size w w' := by
 have l1 := zaa w (.cells #[.slice ta tn tc, .slice wa wn wc] 82)
 have l2 := zaa (w.alloc (.cells #[.slice ta tn tc, .slice wa wn wc] 82)) (.cells #[.int .u8 0, .int .i64 0, .string ⟨#[]⟩] 26)
 have hX := B3.start (w.alloc (.cells #[.slice ta tn tc, .slice wa wn wc] 82)) 0 0 ⟨#[]⟩
 rw [World.size_alloc] at hX
 have HX : Hid (B3 ((w.alloc (.cells #[.slice ta tn tc, .slice wa wn wc] 82)).alloc (.cells #[.int .u8 0, .int .i64 0, .string ⟨#[]⟩] 26)) (w.heap.size + 1) 0 0 ⟨#[]⟩) := hX
 have HB := Lib.hid (zab l1 l2)
 obtain ⟨nt0, bt0, ot0, ea0, lt0, ct0⟩ := zbb hT h0
 rw [Nat.add_zero] at ct0
 clear hX l1 l2 hT hW
 go_enter Tryz.func156, Tryz.ntmps156
 subst ea0
 go_wp2_with fail
 refine (zqo s hs _).mono ?_
 rintro e w2 ⟨rfl, hB2⟩
 have HX2 := Lib.hid (HX.out.later hB2)
 have HB2 := Lib.hid (zab HB.out hB2)
 clear hB2 HX HB
 have HX := HX2
 have HB := HB2
 clear HX2 HB2
 rw [show str (trim s.data.toList) = trimS s from rfl]
 go_wp2_with fail
 have HV := Lib.hid (fun W => zbo (trimS s) W)
 generalize hvv : txV (trimS s) = vv at HV
 have HVV := Lib.hid hvv
 clear hvv
 obtain ⟨vk, vn, vs⟩ := vv
 unfold vOf at HV
 dsimp only at HV
 refine (HV.out _).mono ?_
 rintro e w1 ⟨rfl, hB⟩
 have hX : B3 w1 (w.heap.size + 1) 0 0 ⟨#[]⟩ := HX.out.later hB
 have HBW := Lib.hid (zab HB.out hB)
 obtain ⟨x0, x1, x2, z0, z1, z2⟩ := hX.cells
 have hXl := hX.lt
 obtain ⟨hq, hg⟩ := zae hX vk vn vs
 have hb5 := HBW.out.grown hg HBW.out.size (fun q hq => by injection hq with hq; omega)
 clear hB hg
 go_wp2_with fail
 generalize ((w1.setCell ⟨(w.heap.size + 1), 0, none⟩ (.int .u8 (vk : Int))).setCell ⟨(w.heap.size + 1), 1, none⟩ (.int .i64 vn)).setCell ⟨(w.heap.size + 1), 2, none⟩ (.string vs) = w5 at *
 obtain ⟨y0, y1, y2, _, _, _⟩ := hq.cells
 refine bodyPost_ret (v := .agg #[.int .u8 (vk : Int), .int .i64 vn, .string vs]) (by simp [results, Tryz.results156, go_sem, y0, y1, y2]) rfl ⟨by rw [HVV.out]; rfl, hb5⟩
theorem yfr (s : ByteArray) : (txV s).2.2.size ≤ 2000 ∧ InI (txV s).2.1 := by
 unfold txV badV
 split
 · exact ⟨by decide, by unfold InI; decide⟩
 · exact ⟨by simp only; omega, by unfold InI; simp only; omega⟩
set_option maxHeartbeats 3200000 in
theorem ydy (ta wa : Option Addr) (tn tc wn wc : Nat) (T : List ByteArray) (W0 : List Int) (w : World) (hT : IsT w ta tn T) (hW : IsW w wa wn W0) (s : ByteArray) (h0 : T[0]? = some s) (hTb : Tb w) :
 Calls Tryz.prog 161 #[.agg #[.slice ta tn tc, .slice wa wn wc]] w fun e w' => e = .returned (vOf (cvR 1 (txV s).1 (txV s).2.1 (txV s).2.2)) ∧ Below w.heap.size w w' := by
 have l1 := zaa w (.cells #[.slice ta tn tc, .slice wa wn wc] 82)
 have l2 := zaa (w.alloc (.cells #[.slice ta tn tc, .slice wa wn wc] 82)) (.cells #[.int .u8 0, .int .i64 0, .string ⟨#[]⟩] 26)
 have hX := B3.start (w.alloc (.cells #[.slice ta tn tc, .slice wa wn wc] 82)) 0 0 ⟨#[]⟩
 rw [World.size_alloc] at hX
 have HX : Hid (B3 ((w.alloc (.cells #[.slice ta tn tc, .slice wa wn wc] 82)).alloc (.cells #[.int .u8 0, .int .i64 0, .string ⟨#[]⟩] 26)) (w.heap.size + 1) 0 0 ⟨#[]⟩) := hX
 have HB := Lib.hid (zab l1 l2)
 obtain ⟨nt0, bt0, ot0, ea0, lt0, ct0⟩ := zbb hT h0
 rw [Nat.add_zero] at ct0
 clear hX l1 l2 hT hW
 go_enter Tryz.func161, Tryz.ntmps161
 subst ea0
 go_wp2_with fail
 have HTB := Lib.hid hTb
 clear hTb
 obtain ⟨z1, z2⟩ := yfr s
 have HTN := Lib.hid (fun W (hW : Below w.heap.size w W) => zow (txV s).1 (txV s).2.1 (txV s).2.2 z1 z2 W (HTB.out.later hW))
 have HTX := Lib.hid (fun W => zbo s W)
 clear z1 z2
 obtain ⟨rr, hr⟩ : ∃ r, cvR 1 (txV s).1 (txV s).2.1 (txV s).2.2 = r := ⟨_, rfl⟩
 rw [hr] at HTN
 have HRR := Lib.hid hr
 clear hr
 generalize txV s = vv at HTN HTX
 obtain ⟨vk, vn, vs⟩ := vv
 unfold vOf at HTX
 refine (HTX.out _).mono ?_
 rintro e w2 ⟨rfl, hB2⟩
 have HX2 := Lib.hid (HX.out.later hB2)
 have HB2 := Lib.hid (zab HB.out hB2)
 clear hB2 HX HB HTX
 have HX := HX2
 have HB := HB2
 clear HX2 HB2
 go_wp2_with fail
 have HV := Lib.hid (fun W (hW : Below w.heap.size w W) => HTN.out W hW)
 generalize hvv : rr = vv at HV
 have HVV := Lib.hid hvv
 clear hvv
 obtain ⟨vk, vn, vs⟩ := vv
 dsimp only at HV
 refine (HV.out _ HB.out).mono ?_
 rintro e w1 ⟨rfl, hB⟩
 have hX : B3 w1 (w.heap.size + 1) 0 0 ⟨#[]⟩ := HX.out.later hB
 have HBW := Lib.hid (zab HB.out hB)
 obtain ⟨x0, x1, x2, z0, z1, z2⟩ := hX.cells
 have hXl := hX.lt
 obtain ⟨hq, hg⟩ := zae hX vk vn vs
 have hb5 := HBW.out.grown hg HBW.out.size (fun q hq => by injection hq with hq; omega)
 clear hB hg
 go_wp2_with fail
 generalize ((w1.setCell ⟨(w.heap.size + 1), 0, none⟩ (.int .u8 (vk : Int))).setCell ⟨(w.heap.size + 1), 1, none⟩ (.int .i64 vn)).setCell ⟨(w.heap.size + 1), 2, none⟩ (.string vs) = w5 at *
 obtain ⟨y0, y1, y2, _, _, _⟩ := hq.cells
 refine bodyPost_ret (v := .agg #[.int .u8 (vk : Int), .int .i64 vn, .string vs]) (by simp [results, Tryz.results161, go_sem, y0, y1, y2]) rfl ⟨by rw [HRR.out, HVV.out]; rfl, hb5⟩
end Go.Proofs.YtdhahiodnmmkeaaGreatDoor.Va
/- ftext.Call where it answers by an error number. -/
namespace Go.Proofs.YtdhahiodnmmkeaaGreatDoor.Va
open Go Go.RowKit GM
set_option linter.unusedVariables false
set_option linter.unusedSimpArgs false
set_option maxHeartbeats 3200000 in
theorem zwu (fn : Nat) (hf : fn < 31 ∨ 42 < fn) (a : Option Addr) (n cap : Nat) (w : World) :
 Calls Tryz.prog 37 #[.int .u8 (fn : Int), .slice a n cap] w fun e w' => e = .returned (.tuple #[.agg #[.int .u8 0, .int .i64 0, .string ⟨#[]⟩], .int .i64 10]) ∧ Below w.heap.size w w' := by
 have hB := zaa w (.cells #[.int .u8 0, .int .i64 0, .string ⟨#[]⟩] 26)
 obtain ⟨x0, x1, x2, _, _, _⟩ := (B3.start w 0 0 ⟨#[]⟩).cells
 by_cases h1 : fn < 31
 · have d1 : decide ((fn : Int) < 31) = true := by simp; omega
   go_enter Tryz.func37, Tryz.ntmps37
   go_wp2_with fail
   refine bodyPost_ret (v := .tuple #[.agg #[.int .u8 0, .int .i64 0, .string ⟨#[]⟩], .int .i64 10]) (by simp [results, Tryz.results37, go_sem]) rfl ⟨rfl, hB⟩
 · have d1 : decide ((fn : Int) < 31) = false := by simp; omega
   have d2 : decide ((42 : Int) < (fn : Int)) = true := by simp; omega
   go_enter Tryz.func37, Tryz.ntmps37
   go_wp2_with fail
   refine bodyPost_ret (v := .tuple #[.agg #[.int .u8 0, .int .i64 0, .string ⟨#[]⟩], .int .i64 10]) (by simp [results, Tryz.results37, go_sem]) rfl ⟨rfl, hB⟩
set_option maxHeartbeats 3200000 in
theorem ztf (fn : Nat) (ks : ByteArray) (least : Nat) (hf1 : 31 ≤ fn) (hf2 : fn ≤ 42) (a : Option Addr) (n cap : Nat) (w : World)
 (hpat : ∀ W : World, Calls Tryz.prog 78 #[.int .u8 (fn : Int)] W fun e w' => e = .returned (.tuple #[.string ks, .int .i64 (least : Int)]) ∧ Below W.heap.size W w') (hn : n < least ∨ ks.size < n) :
 Calls Tryz.prog 37 #[.int .u8 (fn : Int), .slice a n cap] w fun e w' => e = .returned (.tuple #[.agg #[.int .u8 0, .int .i64 0, .string ⟨#[]⟩], .int .i64 11]) ∧ Below w.heap.size w w' := by
 have HPAT := Lib.hid hpat
 clear hpat
 have HX : Hid (B3 (w.alloc (.cells #[.int .u8 0, .int .i64 0, .string ⟨#[]⟩] 26)) w.heap.size 0 0 ⟨#[]⟩) := B3.start w 0 0 ⟨#[]⟩
 have HW := Lib.hid (zaa w (.cells #[.int .u8 0, .int .i64 0, .string ⟨#[]⟩] 26))
 have d1 : decide ((fn : Int) < 31) = false := by simp; omega
 have d2 : decide ((42 : Int) < (fn : Int)) = false := by simp; omega
 go_enter Tryz.func37, Tryz.ntmps37
 go_wp2_with fail
 generalize w.alloc (.cells #[.int .u8 0, .int .i64 0, .string ⟨#[]⟩] 26) = w0 at *
 refine (HPAT.out _).mono ?_
 rintro e w1 ⟨rfl, hB1⟩
 have HX1 := Lib.hid (HX.out.later hB1)
 have HB1 := Lib.hid (zab HW.out hB1)
 clear hB1 HX HW HPAT
 by_cases h1 : n < least
 · have d3 : decide (n < least) = true := decide_eq_true h1
   have d3' : decide ((n : Int) < (least : Int)) = true := by simp; omega
   have hX3 := HX1.out
   obtain ⟨x0, x1, x2, z0, z1, z2⟩ := hX3.cells
   have hXl := hX3.lt
   obtain ⟨hq, hg⟩ := zae hX3 0 0 ⟨#[]⟩
   have hb5 := (HB1.out).grown hg (HB1.out).size (fun q hq => by injection hq with hq; omega)
   clear hg
   go_wp2_with fail
   generalize ((w1.setCell ⟨w.heap.size, 0, none⟩ (.int .u8 ((0 : Nat) : Int))).setCell ⟨w.heap.size, 1, none⟩ (.int .i64 0)).setCell ⟨w.heap.size, 2, none⟩ (.string ⟨#[]⟩) = w5 at *
   obtain ⟨v0, v1, v2, _, _, _⟩ := hq.cells
   refine bodyPost_ret (v := .tuple #[.agg #[.int .u8 0, .int .i64 0, .string ⟨#[]⟩], .int .i64 11]) (by simp [results, Tryz.results37, go_sem, v0, v1, v2]) rfl ⟨rfl, hb5⟩
 · have d3 : decide (n < least) = false := decide_eq_false h1
   have d4 : decide (ks.size < n) = true := decide_eq_true (by omega)
   have hX3 := HX1.out
   obtain ⟨x0, x1, x2, z0, z1, z2⟩ := hX3.cells
   have hXl := hX3.lt
   obtain ⟨hq, hg⟩ := zae hX3 0 0 ⟨#[]⟩
   have hb5 := (HB1.out).grown hg (HB1.out).size (fun q hq => by injection hq with hq; omega)
   clear hg
   go_wp2_with fail
   generalize ((w1.setCell ⟨w.heap.size, 0, none⟩ (.int .u8 ((0 : Nat) : Int))).setCell ⟨w.heap.size, 1, none⟩ (.int .i64 0)).setCell ⟨w.heap.size, 2, none⟩ (.string ⟨#[]⟩) = w5 at *
   obtain ⟨v0, v1, v2, _, _, _⟩ := hq.cells
   refine bodyPost_ret (v := .tuple #[.agg #[.int .u8 0, .int .i64 0, .string ⟨#[]⟩], .int .i64 11]) (by simp [results, Tryz.results37, go_sem, v0, v1, v2]) rfl ⟨rfl, hb5⟩
set_option maxHeartbeats 6400000 in
theorem zzk (fn : Nat) (ks : ByteArray) (least : Nat) (hf1 : 31 ≤ fn) (hf2 : fn ≤ 42) (a : Option Addr) (n cap : Nat) (w : World)
 (hpat : ∀ W : World, Calls Tryz.prog 78 #[.int .u8 (fn : Int)] W fun e w' => e = .returned (.tuple #[.string ks, .int .i64 (least : Int)]) ∧ Below W.heap.size W w') (L : List V3) (hL : IsV w a n L) (hl : least ≤ n) (hn : n ≤ ks.size) (hk20 : ks.size ≤ 20) (hv : ∀ v ∈ L, v.2.2.size ≤ maxLen ∧ zau ≤ v.2.1) (hbad : ∃ v ∈ L, vE v.1 v.2.1 v.2.2.data.toList ≠ 0) :
 Calls Tryz.prog 37 #[.int .u8 (fn : Int), .slice a n cap] w fun e w' => e = .returned (.tuple #[.agg #[.int .u8 0, .int .i64 0, .string ⟨#[]⟩], .int .i64 2]) ∧ Below w.heap.size w w' := by
 have HL := Lib.hid hL
 have HNL := Lib.hid hL.1
 have HBAD := Lib.hid hbad
 have HV : Hid (∀ v ∈ L, ∀ W : World, Calls Tryz.prog 49 #[.agg #[.int .u8 (v.1 : Int), .int .i64 v.2.1, .string v.2.2]] W fun e w' => e = .returned (.int .i64 (vE v.1 v.2.1 v.2.2.data.toList)) ∧ Below W.heap.size W w') := fun v hvm W => zex v.1 v.2.1 v.2.2 (hv v hvm).1 (hv v hvm).2 W
 clear hL hv hbad
 have HPAT := Lib.hid hpat
 clear hpat
 have HX : Hid (B3 (w.alloc (.cells #[.int .u8 0, .int .i64 0, .string ⟨#[]⟩] 26)) w.heap.size 0 0 ⟨#[]⟩) := B3.start w 0 0 ⟨#[]⟩
 have HW := Lib.hid (zaa w (.cells #[.int .u8 0, .int .i64 0, .string ⟨#[]⟩] 26))
 have d1 : decide ((fn : Int) < 31) = false := by simp; omega
 have d2 : decide ((42 : Int) < (fn : Int)) = false := by simp; omega
 have d3 : decide (n < least) = false := decide_eq_false (by omega)
 have d4 : decide (ks.size < n) = false := decide_eq_false (by omega)
 go_enter Tryz.func37, Tryz.ntmps37
 go_wp2_with fail
 generalize w.alloc (.cells #[.int .u8 0, .int .i64 0, .string ⟨#[]⟩] 26) = w0 at *
 refine (HPAT.out _).mono ?_
 rintro e w1 ⟨rfl, hB1⟩
 have HX1 := Lib.hid (HX.out.later hB1)
 have HB1 := Lib.hid (zab HW.out hB1)
 clear hB1 HX HW HPAT
 go_wp2_with fail
 go_loopw [39] (fun i wr => ∃ k : Nat, k ≤ n ∧ i = .int .i64 (k : Int) ∧ Hid (Below w.heap.size w wr) ∧ Hid (B3 wr w.heap.size 0 0 ⟨#[]⟩) ∧ Hid (∀ v ∈ L.take k, vE v.1 v.2.1 v.2.2.data.toList = 0)) (fun i _ => n - (intOf i).toNat)
 case atStart => exact ⟨0, Nat.zero_le _, rfl, HB1.out, HX1.out, fun v hv => by simp at hv⟩
 case round =>
  obtain ⟨k, hk, rfl, HB, HX, HOK⟩ := hrel
  clear HB1 HX1
  by_cases hlt : k < n
  · have hkl : k < L.length := by rw [HNL.out]; exact hlt
    have HVk := Lib.hid (HV.out L[k] (List.getElem_mem hkl))
    obtain ⟨b, off, rfl, hrow⟩ := (IsOf.later HL.out HB.out).2 (by omega)
    have c1 : wr.cell? ⟨b, off + k * 3, none⟩ = some (.int .u8 (L[k].1 : Int)) := by have := hrow.2 k hkl 0 _ rfl; rwa [Nat.add_zero] at this
    have c2 : wr.cell? ⟨b, off + k * 3 + 1, none⟩ = some (.int .i64 L[k].2.1) := hrow.2 k hkl 1 _ rfl
    have c3 : wr.cell? ⟨b, off + k * 3 + 2, none⟩ = some (.string L[k].2.2) := hrow.2 k hkl 2 _ rfl
    have hbl := hrow.1
    have HNX : Hid (∀ v ∈ L.take k, vE v.1 v.2.1 v.2.2.data.toList = 0 → True) := fun _ _ _ => trivial
    have HTK : Hid (vE L[k].1 L[k].2.1 L[k].2.2.data.toList = 0 → ∀ v ∈ L.take (k + 1), vE v.1 v.2.1 v.2.2.data.toList = 0) := by
     intro h v hv
     rw [List.take_succ_eq_append_getElem hkl] at hv
     rcases List.mem_append.1 hv with hv | hv
     · exact HOK.out v hv
     · rw [List.mem_singleton.1 hv]; exact h
    have hv02 : vE L[k].1 L[k].2.1 L[k].2.2.data.toList = 0 ∨ vE L[k].1 L[k].2.1 L[k].2.2.data.toList = 2 := by unfold vE; split <;> simp
    clear hrow HNX
    generalize L[k] = vv at *
    obtain ⟨kd, nm, tx⟩ := vv
    dsimp only at c1 c2 c3 HVk HTK hv02
    have HBa := Lib.hid (zab HB.out (zaa wr (.cells #[.int .u8 (kd : Int), .int .i64 nm, .string tx] 26)))
    have HXa := Lib.hid (HX.out.later (zaa wr (.cells #[.int .u8 (kd : Int), .int .i64 nm, .string tx] 26)))
    go_wp2_with fail
    generalize wr.alloc (.cells #[.int .u8 (kd : Int), .int .i64 nm, .string tx] 26) = wb at *
    refine (HVk.out _).mono ?_
    rintro e w2 ⟨rfl, hB2⟩
    have HB2 := Lib.hid (zab HBa.out hB2)
    have HX2 := Lib.hid (HXa.out.later hB2)
    clear hB2 HBa HXa c1 c2 c3 hbl HVk
    rcases hv02 with h0 | h2
    · have htk := HTK.out h0
      have HTN := Lib.hid htk
      rw [h0]
      clear h0 htk HTK
      go_wp2_with fail
      exact ⟨⟨k + 1, by omega, by go_num, HB2.out, HX2.out, HTN.out⟩, by simp [intOf]; omega⟩
    · rw [h2]
      clear h2 HTK
      go_upto_region 10 with fail
      have hX3 := HX2.out
      obtain ⟨x0, x1, x2, z0, z1, z2⟩ := hX3.cells
      have hXl := hX3.lt
      obtain ⟨hq, hg⟩ := zae hX3 0 0 ⟨#[]⟩
      have hb5 := (HB2.out).grown hg (HB2.out).size (fun q hq => by injection hq with hq; omega)
      clear hg
      go_wp2_with fail
      generalize ((w2.setCell ⟨w.heap.size, 0, none⟩ (.int .u8 ((0 : Nat) : Int))).setCell ⟨w.heap.size, 1, none⟩ (.int .i64 0)).setCell ⟨w.heap.size, 2, none⟩ (.string ⟨#[]⟩) = w5 at *
      obtain ⟨v0, v1, v2, _, _, _⟩ := hq.cells
      refine bodyPost_ret (v := .tuple #[.agg #[.int .u8 0, .int .i64 0, .string ⟨#[]⟩], .int .i64 2]) (by simp [results, Tryz.results37, go_sem, v0, v1, v2]) rfl ⟨rfl, hb5⟩
  · exfalso
    obtain ⟨v, hv, hne⟩ := HBAD.out
    refine hne (HOK.out v ?_)
    rw [List.take_of_length_le (by rw [HNL.out]; omega)]
    exact hv
end Go.Proofs.YtdhahiodnmmkeaaGreatDoor.Va
/- ftext: what the conversion of arguments keeps. -/
namespace Go.Proofs.YtdhahiodnmmkeaaGreatDoor.Va
open Go Go.RowKit GM
set_option linter.unusedVariables false
set_option linter.unusedSimpArgs false
theorem ya2 {n : Int} (h : InI n) : InI (mkN n) := by
 unfold mkN
 split
 · unfold InI; decide
 · exact h
theorem yhs (k : Nat) (n : Int) (s : ByteArray) (hv : vE k n s.data.toList = 0) (h1 : ¬ (k = 1 ∨ k = 4)) : InI (nbR k n s).2 := by
 unfold nbR
 split
 · split
   · next hp =>
     have := Tx.par_bd hp
     refine ya2 ?_
     unfold Tx.mostI at this
     unfold InI
     omega
   · split <;> (unfold InI; decide)
 · next h3 =>
   refine ya2 ?_
   have hb : n = 0 ∨ n = 1 := by
    unfold vE vldV at hv
    by_cases k0 : k = 0
    · rw [if_pos k0] at hv; simp at hv; exact .inl hv.1
    · rw [if_neg k0, if_neg (fun e => h1 (.inl e))] at hv
      by_cases k2 : k = 2
      · rw [if_pos k2] at hv; simp at hv; exact hv.1
      · rw [if_neg k2, if_neg h3, if_neg (fun e => h1 (.inr e))] at hv
        simp at hv
   unfold InI
   rcases hb with rfl | rfl <;> decide
theorem zc6 (k : Nat) (n : Int) (s : ByteArray) (hi : InI n) : InI (cvR 1 k n s).2.1 := by
 unfold cvR
 split
 · next hv =>
   split
   · exact hi
   · next h1 =>
     rw [if_pos rfl]
     exact yhs k n s hv h1
 · unfold InI; decide
theorem ygl (k : Nat) (n : Int) (s : ByteArray) (hi : InI n) (h4 : (cvR 3 k n s).1 ≠ 4) : (cvR 3 k n s).2.2.size ≤ 256 := by
 obtain ⟨h1, h2⟩ := ygm k n s hi
 have hk := h2.resolve_right h4
 rw [hk] at h1
 unfold vE vldV at h1
 simp at h1
 exact ygq h1.2
theorem zah : ∀ (ks : List UInt8) (L : List V3) (T : List ByteArray) (W : List Int) (T' : List ByteArray) (W' : List Int), (∀ v ∈ L, InI v.2.1) → (∀ c ∈ ks, c = 115 ∨ c = 110) → zag ks L T W = .inl (T', W') →
 T'.length = T.length + (ks.take L.length).count 115 ∧ W'.length = W.length + (ks.take L.length).count 110 + 1 ∧ (∀ t ∈ T', t ∈ T ∨ t.size ≤ 256) ∧ (∀ x ∈ W', x ∈ W ∨ x ≤ 9223372036854775807)
 | [], L, T, W, T', W', hL, hk, h => by
  have e : zag [] L T W = .inl (T, W ++ [1]) := by cases L <;> rfl
  rw [e] at h
  injection h with h
  injection h with h1 h2
  subst h1 h2
  refine ⟨by simp, by simp, fun t ht => .inl ht, fun x hx => ?_⟩
  rcases List.mem_append.1 hx with hx | hx
  · exact .inl hx
  · rw [List.mem_singleton.1 hx]; exact .inr (by decide)
 | c :: cs, [], T, W, T', W', hL, hk, h => by
  have e : zag (c :: cs) [] T W = .inl (T, W ++ [1]) := rfl
  rw [e] at h
  injection h with h
  injection h with h1 h2
  subst h1 h2
  refine ⟨by simp, by simp, fun t ht => .inl ht, fun x hx => ?_⟩
  rcases List.mem_append.1 hx with hx | hx
  · exact .inl hx
  · rw [List.mem_singleton.1 hx]; exact .inr (by decide)
 | c :: cs, v :: L, T, W, T', W', hL, hk, h => by
  have e : zag (c :: cs) (v :: L) T W = if (cvK c v).1 = 4 then .inr (cvK c v) else if c = 115 then zag cs L (T ++ [(cvK c v).2.2]) W else zag cs L T (W ++ [(zbv (cvK c v).2.1).tdiv 10000]) := rfl
  rw [e] at h
  have hi := hL v (List.mem_cons_self ..)
  have hL' : ∀ v ∈ L, InI v.2.1 := fun u hu => hL u (List.mem_cons_of_mem _ hu)
  have hk' : ∀ c ∈ cs, c = 115 ∨ c = 110 := fun u hu => hk u (List.mem_cons_of_mem _ hu)
  by_cases h4 : (cvK c v).1 = 4
  · rw [if_pos h4] at h; cases h
  rw [if_neg h4] at h
  rcases hk c (List.mem_cons_self ..) with rfl | rfl
  · rw [if_pos rfl] at h
    obtain ⟨a1, a2, a3, a4⟩ := zah cs L _ _ T' W' hL' hk' h
    refine ⟨by rw [a1]; simp; omega, by rw [a2]; simp, fun t ht => ?_, a4⟩
    rcases a3 t ht with h1 | h1
    · rcases List.mem_append.1 h1 with h1 | h1
      · exact .inl h1
      · rw [List.mem_singleton.1 h1]; exact .inr (ygl v.1 v.2.1 v.2.2 hi h4)
    · exact .inr h1
  · rw [if_neg (by decide)] at h
    obtain ⟨a1, a2, a3, a4⟩ := zah cs L _ _ T' W' hL' hk' h
    refine ⟨by rw [a1]; simp, by rw [a2]; simp; omega, a3, fun x hx => ?_⟩
    rcases a4 x hx with h1 | h1
    · rcases List.mem_append.1 h1 with h1 | h1
      · exact .inl h1
      · rw [List.mem_singleton.1 h1]
        have hn := zc6 v.1 v.2.1 v.2.2 hi
        have ht := (zqn (a := (cvK 110 v).2.1) hn).1
        unfold InI at ht
        refine .inr ?_
        have hq : (zbv (cvK 110 v).2.1).tdiv 10000 * 10000 + (zbv (cvK 110 v).2.1).tmod 10000 = zbv (cvK 110 v).2.1 := Int.tdiv_mul_add_tmod ..
        have hm := zjd (zbv (cvK 110 v).2.1) (b := 10000) (by decide)
        generalize (zbv (cvK 110 v).2.1).tdiv 10000 = qq at *
        generalize (zbv (cvK 110 v).2.1).tmod 10000 = rr at *
        omega
    · exact .inr h1
end Go.Proofs.YtdhahiodnmmkeaaGreatDoor.Va
/- ftext.Call in full, for arguments that are valid and as many as it asks. -/
namespace Go.Proofs.YtdhahiodnmmkeaaGreatDoor.Va
open Go Go.RowKit GM
set_option linter.unusedVariables false
set_option linter.unusedSimpArgs false
def g0 (T : List ByteArray) : ByteArray := T.getD 0 ⟨#[]⟩
def g1 (T : List ByteArray) : ByteArray := T.getD 1 ⟨#[]⟩
def n0 (W : List Int) : Int := W.getD 0 0
def n1 (W : List Int) : Int := W.getD 1 0
theorem zbc {T : List ByteArray} (h : 1 ≤ T.length) : T[0]? = some (g0 T) := by unfold g0; rw [List.getD_eq_getElem?_getD, List.getElem?_eq_getElem (by omega)]; rfl
theorem zs5 {T : List ByteArray} (h : 2 ≤ T.length) : T[1]? = some (g1 T) := by unfold g1; rw [List.getD_eq_getElem?_getD, List.getElem?_eq_getElem (by omega)]; rfl
theorem zst {T : List Int} (h : 1 ≤ T.length) : T[0]? = some (n0 T) := by unfold n0; rw [List.getD_eq_getElem?_getD, List.getElem?_eq_getElem (by omega)]; rfl
theorem yht {T : List Int} (h : 2 ≤ T.length) : T[1]? = some (n1 T) := by unfold n1; rw [List.getD_eq_getElem?_getD, List.getElem?_eq_getElem (by omega)]; rfl
theorem zbi {α : Type} {l : List α} {i : Nat} {x : α} (h : l[i]? = some x) : x ∈ l := List.mem_of_getElem? h
def zco (fn : Nat) (T : List ByteArray) (W : List Int) : V3 :=
 match fn with
 | 31 => cnV ((g0 T).size : Int)
 | 32 => leftV (g0 T) (n0 W)
 | 33 => ziy (g0 T) (n0 W)
 | 34 => midV (g0 T) (n0 W) (n1 W)
 | 35 => txV (upS (g0 T))
 | 36 => txV (loS (g0 T))
 | 37 => txV (trimS (g0 T))
 | 38 => txV (zc3 T)
 | 39 => zdh (g0 T) (n0 W)
 | 40 => zjx (g0 T) (g1 T)
 | 41 => zea (g0 T) (g1 T) (n0 W)
 | _ => cvR 1 (txV (g0 T)).1 (txV (g0 T)).2.1 (txV (g0 T)).2.2
def resV (fn : Nat) (R : (List ByteArray × List Int) ⊕ V3) : V3 :=
 match R with
 | .inl p => zco fn p.1 p.2
 | .inr x => x
theorem yfa (a : Option Addr) (n cap : Nat) (L : List V3) (w : World) (hL : IsV w a n L) (hl : 1 ≤ n) (hn : n ≤ 1) (hv : ∀ v ∈ L, v.2.2.size ≤ 2000 ∧ InI v.2.1) (hck : ∀ v ∈ L, vE v.1 v.2.1 v.2.2.data.toList = 0) (hT : Tb w) :
 Calls Tryz.prog 37 #[.int .u8 31, .slice a n cap] w fun e w' => e = .returned (.tuple #[vOf (resV 31 (zag [115] L [] [])), .int .i64 0]) ∧ Below w.heap.size w w' := by
 refine zbt 31 150 ⟨#[115]⟩ 1 (by decide) (by decide) a n cap L w hL yax hl hn (by decide) (by decide) hv (fun k h1 h2 _ => zc6 _ _ _ (hv _ (List.getElem_mem h1)).2) hck hT (fun W q x y h => zpl h) (enters_of Tryz.func150 (by kernel_rfl) rfl) (resV 31 (zag [115] L [] []))
  (fun T W0 h ta tn tc wa wn wc X hX h1 hc h2 => ?_) (fun x h => by rw [show zag [115] L [] [] = .inr x from h]; rfl)
 have hnl := hL.1
 obtain ⟨f1, f2, f3, f4⟩ := zah [115] L [] [] T W0 (fun v hv' => (hv v hv').2) (by decide) h
 rw [show zag [115] L [] [] = .inl (T, W0) from h]
 have f1 : 1 ≤ T.length := by
  rw [f1, hnl]
  obtain rfl := (by omega : n = 1)
  decide
 have f2 : 1 ≤ W0.length := by
  rw [f2, hnl]
  obtain rfl := (by omega : n = 1)
  decide
 exact yhw ta wa tn tc wn wc T W0 X h1 h2 (g0 T) (zbc f1) (Nat.le_trans ((f3 _ (zbi (zbc f1))).resolve_left (by simp)) (by decide))
theorem ye9 (a : Option Addr) (n cap : Nat) (L : List V3) (w : World) (hL : IsV w a n L) (hl : 1 ≤ n) (hn : n ≤ 2) (hv : ∀ v ∈ L, v.2.2.size ≤ 2000 ∧ InI v.2.1) (hck : ∀ v ∈ L, vE v.1 v.2.1 v.2.2.data.toList = 0) (hT : Tb w) :
 Calls Tryz.prog 37 #[.int .u8 32, .slice a n cap] w fun e w' => e = .returned (.tuple #[vOf (resV 32 (zag [115, 110] L [] [])), .int .i64 0]) ∧ Below w.heap.size w w' := by
 refine zbt 32 151 ⟨#[115, 110]⟩ 1 (by decide) (by decide) a n cap L w hL yaw hl hn (by decide) (by decide) hv (fun k h1 h2 _ => zc6 _ _ _ (hv _ (List.getElem_mem h1)).2) hck hT (fun W q x y h => zvw h) (enters_of Tryz.func151 (by kernel_rfl) rfl) (resV 32 (zag [115, 110] L [] []))
  (fun T W0 h ta tn tc wa wn wc X hX h1 hc h2 => ?_) (fun x h => by rw [show zag [115, 110] L [] [] = .inr x from h]; rfl)
 have hnl := hL.1
 obtain ⟨f1, f2, f3, f4⟩ := zah [115, 110] L [] [] T W0 (fun v hv' => (hv v hv').2) (by decide) h
 rw [show zag [115, 110] L [] [] = .inl (T, W0) from h]
 have f1 : 1 ≤ T.length := by
  rw [f1, hnl]
  obtain rfl | rfl := (by omega : n = 1 ∨ n = 2)
  all_goals decide
 have f2 : 1 ≤ W0.length := by
  rw [f2, hnl]
  obtain rfl | rfl := (by omega : n = 1 ∨ n = 2)
  all_goals decide
 exact ygc ta wa tn tc wn wc T W0 X h1 h2 (g0 T) (n0 W0) (zbc f1) (zst f2) (Nat.le_trans ((f3 _ (zbi (zbc f1))).resolve_left (by simp)) (by decide))
theorem ye8 (a : Option Addr) (n cap : Nat) (L : List V3) (w : World) (hL : IsV w a n L) (hl : 1 ≤ n) (hn : n ≤ 2) (hv : ∀ v ∈ L, v.2.2.size ≤ 2000 ∧ InI v.2.1) (hck : ∀ v ∈ L, vE v.1 v.2.1 v.2.2.data.toList = 0) (hT : Tb w) :
 Calls Tryz.prog 37 #[.int .u8 33, .slice a n cap] w fun e w' => e = .returned (.tuple #[vOf (resV 33 (zag [115, 110] L [] [])), .int .i64 0]) ∧ Below w.heap.size w w' := by
 refine zbt 33 152 ⟨#[115, 110]⟩ 1 (by decide) (by decide) a n cap L w hL yav hl hn (by decide) (by decide) hv (fun k h1 h2 _ => zc6 _ _ _ (hv _ (List.getElem_mem h1)).2) hck hT (fun W q x y h => zsy h) (enters_of Tryz.func152 (by kernel_rfl) rfl) (resV 33 (zag [115, 110] L [] []))
  (fun T W0 h ta tn tc wa wn wc X hX h1 hc h2 => ?_) (fun x h => by rw [show zag [115, 110] L [] [] = .inr x from h]; rfl)
 have hnl := hL.1
 obtain ⟨f1, f2, f3, f4⟩ := zah [115, 110] L [] [] T W0 (fun v hv' => (hv v hv').2) (by decide) h
 rw [show zag [115, 110] L [] [] = .inl (T, W0) from h]
 have f1 : 1 ≤ T.length := by
  rw [f1, hnl]
  obtain rfl | rfl := (by omega : n = 1 ∨ n = 2)
  all_goals decide
 have f2 : 1 ≤ W0.length := by
  rw [f2, hnl]
  obtain rfl | rfl := (by omega : n = 1 ∨ n = 2)
  all_goals decide
 exact yd0 ta wa tn tc wn wc T W0 X h1 h2 (g0 T) (n0 W0) (zbc f1) (zst f2) (Nat.le_trans ((f3 _ (zbi (zbc f1))).resolve_left (by simp)) (by decide))
theorem ye7 (a : Option Addr) (n cap : Nat) (L : List V3) (w : World) (hL : IsV w a n L) (hl : 3 ≤ n) (hn : n ≤ 3) (hv : ∀ v ∈ L, v.2.2.size ≤ 2000 ∧ InI v.2.1) (hck : ∀ v ∈ L, vE v.1 v.2.1 v.2.2.data.toList = 0) (hT : Tb w) :
 Calls Tryz.prog 37 #[.int .u8 34, .slice a n cap] w fun e w' => e = .returned (.tuple #[vOf (resV 34 (zag [115, 110, 110] L [] [])), .int .i64 0]) ∧ Below w.heap.size w w' := by
 refine zbt 34 153 ⟨#[115, 110, 110]⟩ 3 (by decide) (by decide) a n cap L w hL yau hl hn (by decide) (by decide) hv (fun k h1 h2 _ => zc6 _ _ _ (hv _ (List.getElem_mem h1)).2) hck hT (fun W q x y h => zpk h) (enters_of Tryz.func153 (by kernel_rfl) rfl) (resV 34 (zag [115, 110, 110] L [] []))
  (fun T W0 h ta tn tc wa wn wc X hX h1 hc h2 => ?_) (fun x h => by rw [show zag [115, 110, 110] L [] [] = .inr x from h]; rfl)
 have hnl := hL.1
 obtain ⟨f1, f2, f3, f4⟩ := zah [115, 110, 110] L [] [] T W0 (fun v hv' => (hv v hv').2) (by decide) h
 rw [show zag [115, 110, 110] L [] [] = .inl (T, W0) from h]
 have f1 : 1 ≤ T.length := by
  rw [f1, hnl]
  obtain rfl := (by omega : n = 3)
  decide
 have f2 : 2 ≤ W0.length := by
  rw [f2, hnl]
  obtain rfl := (by omega : n = 3)
  decide
 exact yhv ta wa tn tc wn wc T W0 X h1 h2 (g0 T) (n0 W0) (n1 W0) (zbc f1) (zst (Nat.le_trans (by decide) f2)) (yht f2) ((f4 _ (zbi (zst (Nat.le_trans (by decide) f2)))).resolve_left (by simp)) (Nat.le_trans ((f3 _ (zbi (zbc f1))).resolve_left (by simp)) (by decide))
theorem ye6 (a : Option Addr) (n cap : Nat) (L : List V3) (w : World) (hL : IsV w a n L) (hl : 1 ≤ n) (hn : n ≤ 1) (hv : ∀ v ∈ L, v.2.2.size ≤ 2000 ∧ InI v.2.1) (hck : ∀ v ∈ L, vE v.1 v.2.1 v.2.2.data.toList = 0) (hT : Tb w) :
 Calls Tryz.prog 37 #[.int .u8 35, .slice a n cap] w fun e w' => e = .returned (.tuple #[vOf (resV 35 (zag [115] L [] [])), .int .i64 0]) ∧ Below w.heap.size w w' := by
 refine zbt 35 154 ⟨#[115]⟩ 1 (by decide) (by decide) a n cap L w hL yat hl hn (by decide) (by decide) hv (fun k h1 h2 _ => zc6 _ _ _ (hv _ (List.getElem_mem h1)).2) hck hT (fun W q x y h => zsx h) (enters_of Tryz.func154 (by kernel_rfl) rfl) (resV 35 (zag [115] L [] []))
  (fun T W0 h ta tn tc wa wn wc X hX h1 hc h2 => ?_) (fun x h => by rw [show zag [115] L [] [] = .inr x from h]; rfl)
 have hnl := hL.1
 obtain ⟨f1, f2, f3, f4⟩ := zah [115] L [] [] T W0 (fun v hv' => (hv v hv').2) (by decide) h
 rw [show zag [115] L [] [] = .inl (T, W0) from h]
 have f1 : 1 ≤ T.length := by
  rw [f1, hnl]
  obtain rfl := (by omega : n = 1)
  decide
 have f2 : 1 ≤ W0.length := by
  rw [f2, hnl]
  obtain rfl := (by omega : n = 1)
  decide
 exact ydz ta wa tn tc wn wc T W0 X h1 h2 (g0 T) (zbc f1) (Nat.le_trans ((f3 _ (zbi (zbc f1))).resolve_left (by simp)) (by decide))
theorem ye5 (a : Option Addr) (n cap : Nat) (L : List V3) (w : World) (hL : IsV w a n L) (hl : 1 ≤ n) (hn : n ≤ 1) (hv : ∀ v ∈ L, v.2.2.size ≤ 2000 ∧ InI v.2.1) (hck : ∀ v ∈ L, vE v.1 v.2.1 v.2.2.data.toList = 0) (hT : Tb w) :
 Calls Tryz.prog 37 #[.int .u8 36, .slice a n cap] w fun e w' => e = .returned (.tuple #[vOf (resV 36 (zag [115] L [] [])), .int .i64 0]) ∧ Below w.heap.size w w' := by
 refine zbt 36 155 ⟨#[115]⟩ 1 (by decide) (by decide) a n cap L w hL yas hl hn (by decide) (by decide) hv (fun k h1 h2 _ => zc6 _ _ _ (hv _ (List.getElem_mem h1)).2) hck hT (fun W q x y h => zsz h) (enters_of Tryz.func155 (by kernel_rfl) rfl) (resV 36 (zag [115] L [] []))
  (fun T W0 h ta tn tc wa wn wc X hX h1 hc h2 => ?_) (fun x h => by rw [show zag [115] L [] [] = .inr x from h]; rfl)
 have hnl := hL.1
 obtain ⟨f1, f2, f3, f4⟩ := zah [115] L [] [] T W0 (fun v hv' => (hv v hv').2) (by decide) h
 rw [show zag [115] L [] [] = .inl (T, W0) from h]
 have f1 : 1 ≤ T.length := by
  rw [f1, hnl]
  obtain rfl := (by omega : n = 1)
  decide
 have f2 : 1 ≤ W0.length := by
  rw [f2, hnl]
  obtain rfl := (by omega : n = 1)
  decide
 exact yd1 ta wa tn tc wn wc T W0 X h1 h2 (g0 T) (zbc f1) (Nat.le_trans ((f3 _ (zbi (zbc f1))).resolve_left (by simp)) (by decide))
theorem ye4 (a : Option Addr) (n cap : Nat) (L : List V3) (w : World) (hL : IsV w a n L) (hl : 1 ≤ n) (hn : n ≤ 1) (hv : ∀ v ∈ L, v.2.2.size ≤ 2000 ∧ InI v.2.1) (hck : ∀ v ∈ L, vE v.1 v.2.1 v.2.2.data.toList = 0) (hT : Tb w) :
 Calls Tryz.prog 37 #[.int .u8 37, .slice a n cap] w fun e w' => e = .returned (.tuple #[vOf (resV 37 (zag [115] L [] [])), .int .i64 0]) ∧ Below w.heap.size w w' := by
 refine zbt 37 156 ⟨#[115]⟩ 1 (by decide) (by decide) a n cap L w hL yar hl hn (by decide) (by decide) hv (fun k h1 h2 _ => zc6 _ _ _ (hv _ (List.getElem_mem h1)).2) hck hT (fun W q x y h => zvv h) (enters_of Tryz.func156 (by kernel_rfl) rfl) (resV 37 (zag [115] L [] []))
  (fun T W0 h ta tn tc wa wn wc X hX h1 hc h2 => ?_) (fun x h => by rw [show zag [115] L [] [] = .inr x from h]; rfl)
 have hnl := hL.1
 obtain ⟨f1, f2, f3, f4⟩ := zah [115] L [] [] T W0 (fun v hv' => (hv v hv').2) (by decide) h
 rw [show zag [115] L [] [] = .inl (T, W0) from h]
 have f1 : 1 ≤ T.length := by
  rw [f1, hnl]
  obtain rfl := (by omega : n = 1)
  decide
 have f2 : 1 ≤ W0.length := by
  rw [f2, hnl]
  obtain rfl := (by omega : n = 1)
  decide
 exact yga ta wa tn tc wn wc T W0 X h1 h2 (g0 T) (zbc f1) (Nat.le_trans ((f3 _ (zbi (zbc f1))).resolve_left (by simp)) (by decide))
theorem ye2 (a : Option Addr) (n cap : Nat) (L : List V3) (w : World) (hL : IsV w a n L) (hl : 2 ≤ n) (hn : n ≤ 2) (hv : ∀ v ∈ L, v.2.2.size ≤ 2000 ∧ InI v.2.1) (hck : ∀ v ∈ L, vE v.1 v.2.1 v.2.2.data.toList = 0) (hT : Tb w) :
 Calls Tryz.prog 37 #[.int .u8 39, .slice a n cap] w fun e w' => e = .returned (.tuple #[vOf (resV 39 (zag [115, 110] L [] [])), .int .i64 0]) ∧ Below w.heap.size w w' := by
 refine zbt 39 158 ⟨#[115, 110]⟩ 2 (by decide) (by decide) a n cap L w hL yap hl hn (by decide) (by decide) hv (fun k h1 h2 _ => zc6 _ _ _ (hv _ (List.getElem_mem h1)).2) hck hT (fun W q x y h => zpj h) (enters_of Tryz.func158 (by kernel_rfl) rfl) (resV 39 (zag [115, 110] L [] []))
  (fun T W0 h ta tn tc wa wn wc X hX h1 hc h2 => ?_) (fun x h => by rw [show zag [115, 110] L [] [] = .inr x from h]; rfl)
 have hnl := hL.1
 obtain ⟨f1, f2, f3, f4⟩ := zah [115, 110] L [] [] T W0 (fun v hv' => (hv v hv').2) (by decide) h
 rw [show zag [115, 110] L [] [] = .inl (T, W0) from h]
 have f1 : 1 ≤ T.length := by
  rw [f1, hnl]
  obtain rfl := (by omega : n = 2)
  decide
 have f2 : 1 ≤ W0.length := by
  rw [f2, hnl]
  obtain rfl := (by omega : n = 2)
  decide
 exact ygb ta wa tn tc wn wc T W0 X h1 h2 (g0 T) (n0 W0) (zbc f1) (zst f2) (Nat.le_trans ((f3 _ (zbi (zbc f1))).resolve_left (by simp)) (by decide))
theorem ye1 (a : Option Addr) (n cap : Nat) (L : List V3) (w : World) (hL : IsV w a n L) (hl : 2 ≤ n) (hn : n ≤ 2) (hv : ∀ v ∈ L, v.2.2.size ≤ 2000 ∧ InI v.2.1) (hck : ∀ v ∈ L, vE v.1 v.2.1 v.2.2.data.toList = 0) (hT : Tb w) :
 Calls Tryz.prog 37 #[.int .u8 40, .slice a n cap] w fun e w' => e = .returned (.tuple #[vOf (resV 40 (zag [115, 115] L [] [])), .int .i64 0]) ∧ Below w.heap.size w w' := by
 refine zbt 40 159 ⟨#[115, 115]⟩ 2 (by decide) (by decide) a n cap L w hL yao hl hn (by decide) (by decide) hv (fun k h1 h2 _ => zc6 _ _ _ (hv _ (List.getElem_mem h1)).2) hck hT (fun W q x y h => zs0 h) (enters_of Tryz.func159 (by kernel_rfl) rfl) (resV 40 (zag [115, 115] L [] []))
  (fun T W0 h ta tn tc wa wn wc X hX h1 hc h2 => ?_) (fun x h => by rw [show zag [115, 115] L [] [] = .inr x from h]; rfl)
 have hnl := hL.1
 obtain ⟨f1, f2, f3, f4⟩ := zah [115, 115] L [] [] T W0 (fun v hv' => (hv v hv').2) (by decide) h
 rw [show zag [115, 115] L [] [] = .inl (T, W0) from h]
 have f1 : 2 ≤ T.length := by
  rw [f1, hnl]
  obtain rfl := (by omega : n = 2)
  decide
 have f2 : 1 ≤ W0.length := by
  rw [f2, hnl]
  obtain rfl := (by omega : n = 2)
  decide
 exact yd2 ta wa tn tc wn wc T W0 X h1 h2 (g0 T) (g1 T) (zbc (Nat.le_trans (by decide) f1)) (zs5 f1)
theorem ye0 (a : Option Addr) (n cap : Nat) (L : List V3) (w : World) (hL : IsV w a n L) (hl : 2 ≤ n) (hn : n ≤ 3) (hv : ∀ v ∈ L, v.2.2.size ≤ 2000 ∧ InI v.2.1) (hck : ∀ v ∈ L, vE v.1 v.2.1 v.2.2.data.toList = 0) (hT : Tb w) (hM : ML w) :
 Calls Tryz.prog 37 #[.int .u8 41, .slice a n cap] w fun e w' => e = .returned (.tuple #[vOf (resV 41 (zag [115, 115, 110] L [] [])), .int .i64 0]) ∧ Below w.heap.size w w' := by
 have HML := Lib.hid hM
 refine zbt 41 160 ⟨#[115, 115, 110]⟩ 2 (by decide) (by decide) a n cap L w hL yan hl hn (by decide) (by decide) hv (fun k h1 h2 _ => zc6 _ _ _ (hv _ (List.getElem_mem h1)).2) hck hT (fun W q x y h => zvx h) (enters_of Tryz.func160 (by kernel_rfl) rfl) (resV 41 (zag [115, 115, 110] L [] []))
  (fun T W0 h ta tn tc wa wn wc X hX h1 hc h2 => ?_) (fun x h => by rw [show zag [115, 115, 110] L [] [] = .inr x from h]; rfl)
 have hnl := hL.1
 obtain ⟨f1, f2, f3, f4⟩ := zah [115, 115, 110] L [] [] T W0 (fun v hv' => (hv v hv').2) (by decide) h
 rw [show zag [115, 115, 110] L [] [] = .inl (T, W0) from h]
 have f1 : 2 ≤ T.length := by
  rw [f1, hnl]
  obtain rfl | rfl := (by omega : n = 2 ∨ n = 3)
  all_goals decide
 have f2 : 1 ≤ W0.length := by
  rw [f2, hnl]
  obtain rfl | rfl := (by omega : n = 2 ∨ n = 3)
  all_goals decide
 exact ygd ta wa tn tc wn wc T W0 X h1 h2 (g0 T) (g1 T) (n0 W0) (zbc (Nat.le_trans (by decide) f1)) (zs5 f1) (zst f2) (Nat.le_trans ((f3 _ (zbi (zs5 f1))).resolve_left (by simp)) (by decide)) (HML.out.later hX)
theorem yez (a : Option Addr) (n cap : Nat) (L : List V3) (w : World) (hL : IsV w a n L) (hl : 1 ≤ n) (hn : n ≤ 1) (hv : ∀ v ∈ L, v.2.2.size ≤ 2000 ∧ InI v.2.1) (hck : ∀ v ∈ L, vE v.1 v.2.1 v.2.2.data.toList = 0) (hT : Tb w) :
 Calls Tryz.prog 37 #[.int .u8 42, .slice a n cap] w fun e w' => e = .returned (.tuple #[vOf (resV 42 (zag [115] L [] [])), .int .i64 0]) ∧ Below w.heap.size w w' := by
 refine zbt 42 161 ⟨#[115]⟩ 1 (by decide) (by decide) a n cap L w hL yam hl hn (by decide) (by decide) hv (fun k h1 h2 _ => zc6 _ _ _ (hv _ (List.getElem_mem h1)).2) hck hT (fun W q x y h => zsw h) (enters_of Tryz.func161 (by kernel_rfl) rfl) (resV 42 (zag [115] L [] []))
  (fun T W0 h ta tn tc wa wn wc X hX h1 hc h2 => ?_) (fun x h => by rw [show zag [115] L [] [] = .inr x from h]; rfl)
 have hnl := hL.1
 obtain ⟨f1, f2, f3, f4⟩ := zah [115] L [] [] T W0 (fun v hv' => (hv v hv').2) (by decide) h
 rw [show zag [115] L [] [] = .inl (T, W0) from h]
 have f1 : 1 ≤ T.length := by
  rw [f1, hnl]
  obtain rfl := (by omega : n = 1)
  decide
 have f2 : 1 ≤ W0.length := by
  rw [f2, hnl]
  obtain rfl := (by omega : n = 1)
  decide
 exact ydy ta wa tn tc wn wc T W0 X h1 h2 (g0 T) (zbc f1) (hT.later hX)
theorem zge : ∀ l : List (List UInt8), Lib.join l [] = l.flatten
 | [] => rfl
 | [a] => by simp [Lib.join, List.intercalate]
 | a :: b :: l => by
  have ih := zge (b :: l)
  unfold Lib.join List.intercalate at *
  rw [List.intersperse_cons_cons, List.flatten_cons, List.flatten_cons, ih]
  simp
theorem zrk : ∀ T : List ByteArray, (∀ t ∈ T, t.size ≤ 256) → (zc3 T).size ≤ 256 * T.length := by
 intro T h
 have e : (zc3 T).size = (T.map (·.data.toList)).flatten.length := by
  rw [← zge]; rfl
 rw [e]
 clear e
 induction T with
 | nil => simp
 | cons t T ih =>
  rw [List.map_cons, List.flatten_cons, List.length_append, List.length_cons]
  have := ih (fun x hx => h x (List.mem_cons_of_mem _ hx))
  have h1 := h t (List.mem_cons_self ..)
  have h2 := dlen t
  omega
theorem ye3 (a : Option Addr) (n cap : Nat) (L : List V3) (w : World) (hL : IsV w a n L) (hl : 1 ≤ n) (hn : n ≤ 16) (hv : ∀ v ∈ L, v.2.2.size ≤ 2000 ∧ InI v.2.1) (hck : ∀ v ∈ L, vE v.1 v.2.1 v.2.2.data.toList = 0) (hT : Tb w) :
 Calls Tryz.prog 37 #[.int .u8 38, .slice a n cap] w fun e w' => e = .returned (.tuple #[vOf (resV 38 (zag [115, 115, 115, 115, 115, 115, 115, 115, 115, 115, 115, 115, 115, 115, 115, 115] L [] [])), .int .i64 0]) ∧ Below w.heap.size w w' := by
 refine zbt 38 157 ⟨#[115, 115, 115, 115, 115, 115, 115, 115, 115, 115, 115, 115, 115, 115, 115, 115]⟩ 1 (by decide) (by decide) a n cap L w hL yaq hl hn (by decide) (by decide) hv (fun k h1 h2 _ => zc6 _ _ _ (hv _ (List.getElem_mem h1)).2) hck hT (fun W q x y h => zpm h) (enters_of Tryz.func157 (by kernel_rfl) rfl) (resV 38 (zag [115, 115, 115, 115, 115, 115, 115, 115, 115, 115, 115, 115, 115, 115, 115, 115] L [] []))
  (fun T W0 h ta tn tc wa wn wc X hX h1 hc h2 => ?_) (fun x h => by rw [show zag [115, 115, 115, 115, 115, 115, 115, 115, 115, 115, 115, 115, 115, 115, 115, 115] L [] [] = .inr x from h]; rfl)
 have hnl := hL.1
 obtain ⟨f1, f2, f3, f4⟩ := zah [115, 115, 115, 115, 115, 115, 115, 115, 115, 115, 115, 115, 115, 115, 115, 115] L [] [] T W0 (fun v hv' => (hv v hv').2) (by decide) h
 rw [show zag [115, 115, 115, 115, 115, 115, 115, 115, 115, 115, 115, 115, 115, 115, 115, 115] L [] [] = .inl (T, W0) from h]
 have hz := zrk T (fun t ht => (f3 t ht).resolve_left (by simp))
 have hc16 : (List.take L.length [115, 115, 115, 115, 115, 115, 115, 115, 115, 115, 115, 115, 115, 115, 115, 115]).count (115 : UInt8) ≤ 16 := Nat.le_trans List.count_le_length (by rw [List.length_take]; exact Nat.min_le_right _ _)
 have hlen : T.length ≤ 16 := by rw [f1]; simpa using hc16
 exact yhx ta wa tn tc wn wc T W0 X h1 h2 (by rw [← h1.1]; omega) hc (by omega)
end Go.Proofs.YtdhahiodnmmkeaaGreatDoor.Va
/- ftext.Call in full. -/
namespace Go.Proofs.YtdhahiodnmmkeaaGreatDoor.Va
open Go Go.RowKit GM
set_option linter.unusedVariables false
set_option linter.unusedSimpArgs false
def patV (fn : Nat) : ByteArray × Nat :=
 match fn with
 | 32 => (⟨#[115, 110]⟩, 1)
 | 33 => (⟨#[115, 110]⟩, 1)
 | 34 => (⟨#[115, 110, 110]⟩, 3)
 | 38 => (⟨#[115, 115, 115, 115, 115, 115, 115, 115, 115, 115, 115, 115, 115, 115, 115, 115]⟩, 1)
 | 39 => (⟨#[115, 110]⟩, 2)
 | 40 => (⟨#[115, 115]⟩, 2)
 | 41 => (⟨#[115, 115, 110]⟩, 2)
 | _ => (⟨#[115]⟩, 1)
def callV (fn : Nat) (L : List V3) : V3 × Int :=
 if fn < 31 ∨ 42 < fn then ((0, 0, ⟨#[]⟩), 10)
 else if L.length < (patV fn).2 ∨ (patV fn).1.size < L.length then ((0, 0, ⟨#[]⟩), 11)
 else if L.all (fun v => decide (vE v.1 v.2.1 v.2.2.data.toList = 0)) = false then ((0, 0, ⟨#[]⟩), 2)
 else (resV fn (zag (patV fn).1.data.toList L [] []), 0)
theorem yha {v : V3} (h : vE v.1 v.2.1 v.2.2.data.toList = 0) : v.2.2.size ≤ 256 := by
 obtain ⟨k, n, s⟩ := v
 have hv : vldV k n s.data.toList = true := by
  unfold vE at h
  by_cases hv : vldV k n s.data.toList = true
  · exact hv
  · simp only [if_neg hv] at h; omega
 have he : s.data.toList.isEmpty = true → s.size ≤ 256 := fun e => by
  have := dlen s
  rw [List.isEmpty_iff.1 e] at this
  simp at this
  omega
 unfold vldV at hv
 split at hv
 · exact he (by simp at hv ⊢; exact hv.2)
 split at hv
 · exact he (by simp at hv ⊢; exact hv.2)
 split at hv
 · exact he (by simp at hv ⊢; exact hv.2)
 split at hv
 · simp at hv; exact ygq hv.2
 split at hv
 · exact he (by simp at hv ⊢; exact hv.2)
 · cases hv
theorem zu4 (fn : Nat) (a : Option Addr) (n cap : Nat) (L : List V3) (w : World) (hL : IsV w a n L) (hv : ∀ v ∈ L, v.2.2.size ≤ maxLen ∧ InI v.2.1) (hT : Tb w) (hM : ML w) :
 Calls Tryz.prog 37 #[.int .u8 (fn : Int), .slice a n cap] w fun e w' => e = .returned (.tuple #[vOf (callV fn L).1, .int .i64 (callV fn L).2]) ∧ Below w.heap.size w w' := by
 have hnl := hL.1
 by_cases hf : fn < 31 ∨ 42 < fn
 · have e : callV fn L = ((0, 0, ⟨#[]⟩), 10) := if_pos hf
   rw [e]
   exact zwu fn hf a n cap w
 have hpat : ∀ W : World, Calls Tryz.prog 78 #[.int .u8 (fn : Int)] W fun e w' => e = .returned (.tuple #[.string (patV fn).1, .int .i64 ((patV fn).2 : Int)]) ∧ Below W.heap.size W w' := by
  obtain rfl | rfl | rfl | rfl | rfl | rfl | rfl | rfl | rfl | rfl | rfl | rfl := (by omega : fn = 31 ∨ fn = 32 ∨ fn = 33 ∨ fn = 34 ∨ fn = 35 ∨ fn = 36 ∨ fn = 37 ∨ fn = 38 ∨ fn = 39 ∨ fn = 40 ∨ fn = 41 ∨ fn = 42)
  · exact yax
  · exact yaw
  · exact yav
  · exact yau
  · exact yat
  · exact yas
  · exact yar
  · exact yaq
  · exact yap
  · exact yao
  · exact yan
  · exact yam
 by_cases hc : L.length < (patV fn).2 ∨ (patV fn).1.size < L.length
 · have e : callV fn L = ((0, 0, ⟨#[]⟩), 11) := by unfold callV; rw [if_neg hf, if_pos hc]
   rw [e]
   exact ztf fn _ _ (by omega) (by omega) a n cap w hpat (by rw [← hnl]; exact hc)
 have hk20 : (patV fn).1.size ≤ 20 := by
  obtain rfl | rfl | rfl | rfl | rfl | rfl | rfl | rfl | rfl | rfl | rfl | rfl := (by omega : fn = 31 ∨ fn = 32 ∨ fn = 33 ∨ fn = 34 ∨ fn = 35 ∨ fn = 36 ∨ fn = 37 ∨ fn = 38 ∨ fn = 39 ∨ fn = 40 ∨ fn = 41 ∨ fn = 42)
  all_goals decide
 by_cases hb : L.all (fun v => decide (vE v.1 v.2.1 v.2.2.data.toList = 0)) = false
 · have e : callV fn L = ((0, 0, ⟨#[]⟩), 2) := by unfold callV; rw [if_neg hf, if_neg hc, if_pos hb]
   rw [e]
   refine zzk fn _ _ (by omega) (by omega) a n cap w hpat L hL (by omega) (by omega) hk20 (fun v h => ⟨(hv v h).1, by have := (hv v h).2; unfold InI at this; unfold zau; omega⟩) ?_
   rw [List.all_eq_false] at hb
   obtain ⟨v, h1, h2⟩ := hb
   exact ⟨v, h1, by simpa using h2⟩
 have e : callV fn L = (resV fn (zag (patV fn).1.data.toList L [] []), 0) := by unfold callV; rw [if_neg hf, if_neg hc, if_neg hb]
 rw [e]
 have hck : ∀ v ∈ L, vE v.1 v.2.1 v.2.2.data.toList = 0 := by
  have := eq_true_of_ne_false hb
  rw [List.all_eq_true] at this
  exact fun v h => by simpa using this v h
 have hv2 : ∀ v ∈ L, v.2.2.size ≤ 2000 ∧ InI v.2.1 := fun v h => ⟨Nat.le_trans (yha (hck v h)) (by decide), (hv v h).2⟩
 have h1 : (patV fn).2 ≤ n := by omega
 have h2 : n ≤ (patV fn).1.size := by omega
 obtain rfl | rfl | rfl | rfl | rfl | rfl | rfl | rfl | rfl | rfl | rfl | rfl := (by omega : fn = 31 ∨ fn = 32 ∨ fn = 33 ∨ fn = 34 ∨ fn = 35 ∨ fn = 36 ∨ fn = 37 ∨ fn = 38 ∨ fn = 39 ∨ fn = 40 ∨ fn = 41 ∨ fn = 42)
 · exact yfa a n cap L w hL h1 h2 hv2 hck hT
 · exact ye9 a n cap L w hL h1 h2 hv2 hck hT
 · exact ye8 a n cap L w hL h1 h2 hv2 hck hT
 · exact ye7 a n cap L w hL h1 h2 hv2 hck hT
 · exact ye6 a n cap L w hL h1 h2 hv2 hck hT
 · exact ye5 a n cap L w hL h1 h2 hv2 hck hT
 · exact ye4 a n cap L w hL h1 h2 hv2 hck hT
 · exact ye3 a n cap L w hL h1 h2 hv2 hck hT
 · exact ye2 a n cap L w hL h1 h2 hv2 hck hT
 · exact ye1 a n cap L w hL h1 h2 hv2 hck hT
 · exact ye0 a n cap L w hL h1 h2 hv2 hck hT hM
 · exact yez a n cap L w hL h1 h2 hv2 hck hT
end Go.Proofs.YtdhahiodnmmkeaaGreatDoor.Va
/- The reference's pieces of a text are the program's. -/
namespace Go.Proofs.YtdhahiodnmmkeaaGreatDoor.Va
open Go Go.RowKit GM
set_option linter.unusedVariables false
set_option linter.unusedSimpArgs false
def zd7 (s : ByteArray) (from0 many0 : Int) : ByteArray :=
 s.extract (min from0 ((s.size : Int) + 1) - 1).toNat (min from0 ((s.size : Int) + 1) - 1 + min (min many0 s.size) ((s.size : Int) - min from0 ((s.size : Int) + 1) + 1)).toNat
theorem zsm {s : ByteArray} {k : Int} (hk : 0 ≤ k) : zd7 s 1 k = s.extract 0 (min k s.size).toNat := by
 unfold zd7
 congr 1 <;> omega
theorem zpd {s : ByteArray} {k : Int} (hk : 0 ≤ k) : zd7 s ((s.size : Int) - min k s.size + 1) k = s.extract ((s.size : Int) - min k s.size).toNat s.size := by
 unfold zd7
 congr 1 <;> omega
theorem zu3 {s : ByteArray} {f k : Int} (hf : 1 ≤ f) (hk : 0 ≤ k) : zd7 s f k = midS s f k := by
 apply zgm
 unfold zd7 midS
 have hz := dlen s
 rw [zcs, zcs, zcs, List.drop_zero, Nat.sub_zero, List.take_take]
 have e : (min f ((s.size : Int) + 1) - 1).toNat = (min (f - 1) (s.size : Int)).toNat := by omega
 rw [e]
 congr 1
 omega
theorem yed {X Y : List UInt8} {f k : Int} (h1 : 1 ≤ k) (hk : k ≤ (Y.length : Int) - X.length + 1) (hf : fstP X Y f = fstP X Y k) (h : ¬ (Y.drop (k - 1).toNat).take X.length = X) : fstP X Y f = fstP X Y (k + 1) := hf.trans (zwa h1 hk h)
theorem zy3 {s t : ByteArray} {f k : Int} (hf1 : 1 ≤ f) (h1 : 1 ≤ k) (hk : k ≤ (t.size : Int) - s.size + 1) (hf : fstP s.data.toList t.data.toList f = fstP s.data.toList t.data.toList k) (h : (t.data.toList.drop (k - 1).toNat).take s.size = s.data.toList) : zea s t f = (1, k * 10000, ⟨#[]⟩) := by
 have e : fstP s.data.toList t.data.toList f = k := hf.trans (zy2 h1 (by rw [dlen, dlen]; exact hk) (by rw [dlen]; exact h))
 exact (zs6 hf1 e (by omega)).1
theorem zy4 {s t : ByteArray} {f k : Int} (hk : (t.size : Int) - s.size + 1 < k) (hf : fstP s.data.toList t.data.toList f = fstP s.data.toList t.data.toList k) : zea s t f = badV :=
 zlg (.inr (hf.trans (zv9 (by rw [dlen, dlen]; exact hk))))
theorem zt4 (a : Int) : (zbv a).tdiv 10000 = a.tdiv 10000 := by
 have h := Int.tdiv_mul_add_tmod a 10000
 have e : zbv a = a.tdiv 10000 * 10000 := by unfold zbv; omega
 rw [e]
 exact Int.mul_tdiv_cancel _ (by decide)
theorem zl6 : ∀ k, Lib.repeatL ([] : List UInt8) k = []
 | 0 => by simp [Lib.repeatL]
 | k + 1 => by have := zl6 k; simp_all [Lib.repeatL, List.replicate_succ]
theorem zxy {s : ByteArray} {n : Int} (h0 : 0 ≤ n) (h : (s.size : Int) * n ≤ 256) : zdh s n = txV (repS s n.toNat) := by
 unfold zdh
 by_cases hs : s = ⟨#[]⟩
 · subst hs
   rw [if_neg (by simp; omega)]
   have e : ∀ k, repS ⟨#[]⟩ k = ⟨#[]⟩ := fun k => by
    apply zgm
    unfold repS
    exact zl6 k
   rw [e, e]
 · have hz : 1 ≤ s.size := by
    rcases Nat.eq_zero_or_pos s.size with h | h
    · exact absurd (zgm (List.eq_nil_of_length_eq_zero ((dlen s).trans h))) hs
    · exact h
   have hn : n ≤ 256 := by
    have : n ≤ (s.size : Int) * n := by
     have := Int.mul_le_mul_of_nonneg_right (show (1 : Int) ≤ s.size by omega) h0
     omega
    omega
   rw [if_neg (by omega), show (min n 256).toNat = n.toNat by omega]
end Go.Proofs.YtdhahiodnmmkeaaGreatDoor.Va
