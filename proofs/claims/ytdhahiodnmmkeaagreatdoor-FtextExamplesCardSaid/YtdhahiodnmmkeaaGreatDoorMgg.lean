/- Merged: FuA FuB Lval MakV FtF. -/
import Derived.Test.YtdhahiodnmmkeaaGreatDoorFtE
import Derived.Test.YtdhahiodnmmkeaaGreatDoorValR
import Derived.Deep.RegionLaw
import Derived.Lib.MinMax
import Derived.Deep.MidRow
import Derived.Laws.MakeOwn
import Derived.BigQuiet
/- The reference's helpers for lists of values: how many, valid, copies, equal. -/
namespace Go.Proofs.YtdhahiodnmmkeaaGreatDoor.Va
open Go Go.RowKit GM
set_option linter.unusedVariables false
set_option linter.unusedSimpArgs false
def arV (fn : Nat) : Nat × Nat :=
 match fn with
 | 5 => (2, 2)
 | 6 => (2, 2)
 | 7 => (2, 2)
 | 9 => (1, 16)
 | 10 => (1, 16)
 | 11 => (1, 16)
 | 12 => (1, 16)
 | 14 => (1, 16)
 | 15 => (1, 16)
 | 16 => (1, 16)
 | 17 => (1, 16)
 | 18 => (2, 2)
 | 19 => (2, 2)
 | 20 => (2, 3)
 | 21 => (1, 16)
 | 22 => (1, 16)
 | 23 => (1, 16)
 | 25 => (2, 2)
 | 30 => (2, 16)
 | 32 => (1, 2)
 | 33 => (1, 2)
 | 34 => (3, 3)
 | 38 => (1, 16)
 | 39 => (2, 2)
 | 40 => (2, 2)
 | 41 => (2, 3)
 | 43 => (2, 3)
 | 44 => (2, 2)
 | 45 => (2, 2)
 | _ => (1, 1)
theorem yaj (w : World) : Calls Tryz.prog 141 #[.int .u8 31] w fun e w' => e = .returned (.tuple #[.int .i64 1, .int .i64 1]) ∧ Below w.heap.size w w' := by
 go_enter Tryz.func141, Tryz.ntmps141
 go_wp2_with fail
 refine bodyPost_ret (v := .tuple #[.int .i64 1, .int .i64 1]) (by simp [results, Tryz.results141, go_sem]) rfl ⟨rfl, Below.refl _ _⟩
theorem yai (w : World) : Calls Tryz.prog 141 #[.int .u8 32] w fun e w' => e = .returned (.tuple #[.int .i64 1, .int .i64 2]) ∧ Below w.heap.size w w' := by
 go_enter Tryz.func141, Tryz.ntmps141
 go_wp2_with fail
 refine bodyPost_ret (v := .tuple #[.int .i64 1, .int .i64 2]) (by simp [results, Tryz.results141, go_sem]) rfl ⟨rfl, Below.refl _ _⟩
theorem yah (w : World) : Calls Tryz.prog 141 #[.int .u8 33] w fun e w' => e = .returned (.tuple #[.int .i64 1, .int .i64 2]) ∧ Below w.heap.size w w' := by
 go_enter Tryz.func141, Tryz.ntmps141
 go_wp2_with fail
 refine bodyPost_ret (v := .tuple #[.int .i64 1, .int .i64 2]) (by simp [results, Tryz.results141, go_sem]) rfl ⟨rfl, Below.refl _ _⟩
theorem yag (w : World) : Calls Tryz.prog 141 #[.int .u8 34] w fun e w' => e = .returned (.tuple #[.int .i64 3, .int .i64 3]) ∧ Below w.heap.size w w' := by
 go_enter Tryz.func141, Tryz.ntmps141
 go_wp2_with fail
 refine bodyPost_ret (v := .tuple #[.int .i64 3, .int .i64 3]) (by simp [results, Tryz.results141, go_sem]) rfl ⟨rfl, Below.refl _ _⟩
theorem yaf (w : World) : Calls Tryz.prog 141 #[.int .u8 35] w fun e w' => e = .returned (.tuple #[.int .i64 1, .int .i64 1]) ∧ Below w.heap.size w w' := by
 go_enter Tryz.func141, Tryz.ntmps141
 go_wp2_with fail
 refine bodyPost_ret (v := .tuple #[.int .i64 1, .int .i64 1]) (by simp [results, Tryz.results141, go_sem]) rfl ⟨rfl, Below.refl _ _⟩
theorem yae (w : World) : Calls Tryz.prog 141 #[.int .u8 36] w fun e w' => e = .returned (.tuple #[.int .i64 1, .int .i64 1]) ∧ Below w.heap.size w w' := by
 go_enter Tryz.func141, Tryz.ntmps141
 go_wp2_with fail
 refine bodyPost_ret (v := .tuple #[.int .i64 1, .int .i64 1]) (by simp [results, Tryz.results141, go_sem]) rfl ⟨rfl, Below.refl _ _⟩
theorem yad (w : World) : Calls Tryz.prog 141 #[.int .u8 37] w fun e w' => e = .returned (.tuple #[.int .i64 1, .int .i64 1]) ∧ Below w.heap.size w w' := by
 go_enter Tryz.func141, Tryz.ntmps141
 go_wp2_with fail
 refine bodyPost_ret (v := .tuple #[.int .i64 1, .int .i64 1]) (by simp [results, Tryz.results141, go_sem]) rfl ⟨rfl, Below.refl _ _⟩
theorem yac (w : World) : Calls Tryz.prog 141 #[.int .u8 38] w fun e w' => e = .returned (.tuple #[.int .i64 1, .int .i64 16]) ∧ Below w.heap.size w w' := by
 go_enter Tryz.func141, Tryz.ntmps141
 go_wp2_with fail
 refine bodyPost_ret (v := .tuple #[.int .i64 1, .int .i64 16]) (by simp [results, Tryz.results141, go_sem]) rfl ⟨rfl, Below.refl _ _⟩
theorem yab (w : World) : Calls Tryz.prog 141 #[.int .u8 39] w fun e w' => e = .returned (.tuple #[.int .i64 2, .int .i64 2]) ∧ Below w.heap.size w w' := by
 go_enter Tryz.func141, Tryz.ntmps141
 go_wp2_with fail
 refine bodyPost_ret (v := .tuple #[.int .i64 2, .int .i64 2]) (by simp [results, Tryz.results141, go_sem]) rfl ⟨rfl, Below.refl _ _⟩
theorem yaa (w : World) : Calls Tryz.prog 141 #[.int .u8 40] w fun e w' => e = .returned (.tuple #[.int .i64 2, .int .i64 2]) ∧ Below w.heap.size w w' := by
 go_enter Tryz.func141, Tryz.ntmps141
 go_wp2_with fail
 refine bodyPost_ret (v := .tuple #[.int .i64 2, .int .i64 2]) (by simp [results, Tryz.results141, go_sem]) rfl ⟨rfl, Below.refl _ _⟩
theorem zz9 (w : World) : Calls Tryz.prog 141 #[.int .u8 41] w fun e w' => e = .returned (.tuple #[.int .i64 2, .int .i64 3]) ∧ Below w.heap.size w w' := by
 go_enter Tryz.func141, Tryz.ntmps141
 go_wp2_with fail
 refine bodyPost_ret (v := .tuple #[.int .i64 2, .int .i64 3]) (by simp [results, Tryz.results141, go_sem]) rfl ⟨rfl, Below.refl _ _⟩
theorem zz8 (w : World) : Calls Tryz.prog 141 #[.int .u8 42] w fun e w' => e = .returned (.tuple #[.int .i64 1, .int .i64 1]) ∧ Below w.heap.size w w' := by
 go_enter Tryz.func141, Tryz.ntmps141
 go_wp2_with fail
 refine bodyPost_ret (v := .tuple #[.int .i64 1, .int .i64 1]) (by simp [results, Tryz.results141, go_sem]) rfl ⟨rfl, Below.refl _ _⟩
theorem zqw (fn : Nat) (h1 : 31 ≤ fn) (h2 : fn ≤ 42) (w : World) : Calls Tryz.prog 141 #[.int .u8 (fn : Int)] w fun e w' => e = .returned (.tuple #[.int .i64 ((arV fn).1 : Int), .int .i64 ((arV fn).2 : Int)]) ∧ Below w.heap.size w w' := by
 obtain rfl | rfl | rfl | rfl | rfl | rfl | rfl | rfl | rfl | rfl | rfl | rfl := (by omega : fn = 31 ∨ fn = 32 ∨ fn = 33 ∨ fn = 34 ∨ fn = 35 ∨ fn = 36 ∨ fn = 37 ∨ fn = 38 ∨ fn = 39 ∨ fn = 40 ∨ fn = 41 ∨ fn = 42)
 · exact yaj w
 · exact yai w
 · exact yah w
 · exact yag w
 · exact yaf w
 · exact yae w
 · exact yad w
 · exact yac w
 · exact yab w
 · exact yaa w
 · exact zz9 w
 · exact zz8 w
theorem ygv (fn : Nat) : (arV fn).2 ≤ 16 := by
 unfold arV
 split <;> decide
theorem zaz (fn n : Nat) (hn : n ≤ 1000000) (w : World) (har : ∀ W : World, Calls Tryz.prog 141 #[.int .u8 (fn : Int)] W fun e w' => e = .returned (.tuple #[.int .i64 ((arV fn).1 : Int), .int .i64 ((arV fn).2 : Int)]) ∧ Below W.heap.size W w') :
 Calls Tryz.prog 76 #[.int .u8 (fn : Int), .int .i64 (n : Int)] w fun e w' => e = .returned (.bool (decide ((arV fn).1 ≤ n ∧ n ≤ (arV fn).2))) ∧ Below w.heap.size w w' := by
 have HAR := Lib.hid har
 clear har
 have hm := ygv fn
 generalize (arV fn).1 = p at *
 generalize (arV fn).2 = q at *
 go_enter Tryz.func76, Tryz.ntmps76
 go_wp2_with fail
 refine (HAR.out _).mono ?_
 rintro e w1 ⟨rfl, hB⟩
 have HB := Lib.hid hB
 clear hB HAR
 by_cases h1 : p ≤ n
 · have d1 : decide ((p : Int) ≤ (n : Int)) = true := by simp; exact h1
   by_cases h2 : n ≤ q
   · have d2 : decide ((n : Int) ≤ (q : Int)) = true := by simp; exact h2
     go_wp2_with fail
     refine bodyPost_ret (v := .bool true) (by simp [results, Tryz.results76, go_sem]) rfl ⟨by rw [decide_eq_true (show p ≤ n ∧ n ≤ q from ⟨h1, h2⟩)], HB.out⟩
   · have d2 : decide ((n : Int) ≤ (q : Int)) = false := by simp; omega
     go_wp2_with fail
     refine bodyPost_ret (v := .bool false) (by simp [results, Tryz.results76, go_sem]) rfl ⟨by rw [decide_eq_false (show ¬ (p ≤ n ∧ n ≤ q) from fun h => h2 h.2)], HB.out⟩
 · have d1 : decide ((p : Int) ≤ (n : Int)) = false := by simp; omega
   go_wp2_with fail
   refine bodyPost_ret (v := .bool false) (by simp [results, Tryz.results76, go_sem]) rfl ⟨by rw [decide_eq_false (show ¬ (p ≤ n ∧ n ≤ q) from fun h => h1 h.1)], HB.out⟩
theorem zhs {w : World} {a : Option Addr} {n : Nat} {L : List V3} (h : IsV w a n L) {k : Nat} (hkl : k < L.length) : ∃ b off, a = some ⟨b, off, none⟩ ∧ b < w.heap.size ∧ w.cell? ⟨b, off + k * 3, none⟩ = some (.int .u8 (L[k].1 : Int)) ∧ w.cell? ⟨b, off + k * 3 + 1, none⟩ = some (.int .i64 L[k].2.1) ∧ w.cell? ⟨b, off + k * 3 + 2, none⟩ = some (.string L[k].2.2) := by
 obtain ⟨b, off, rfl, hrow⟩ := h.2 (by have := h.1; omega)
 refine ⟨b, off, rfl, hrow.1, ?_, hrow.2 k hkl 1 _ rfl, hrow.2 k hkl 2 _ rfl⟩
 have := hrow.2 k hkl 0 _ rfl; rwa [Nat.add_zero] at this
def okL (L : List V3) : Bool := L.all (fun v => decide (vE v.1 v.2.1 v.2.2.data.toList = 0))
theorem zyn {L : List V3} {k : Nat} (hkl : k < L.length) (hk : okL (L.take k) = true) : okL (L.take (k + 1)) = decide (vE L[k].1 L[k].2.1 L[k].2.2.data.toList = 0) := by
 unfold okL at *
 rw [List.take_succ_eq_append_getElem hkl, List.all_append, hk]
 simp
theorem ydv {L : List V3} {k : Nat} (h : okL (L.take (k + 1)) = false) : okL L = false := by
 unfold okL at *
 rw [← List.take_append_drop (k + 1) L, List.all_append, h]
 rfl
set_option maxHeartbeats 3200000 in
theorem za3 (a : Option Addr) (n cap : Nat) (L : List V3) (hn : n ≤ 1000) (w : World) (hL : IsV w a n L) (hv : ∀ v ∈ L, v.2.2.size ≤ maxLen ∧ zau ≤ v.2.1) :
 Calls Tryz.prog 65 #[.slice a n cap] w fun e w' => e = .returned (.bool (okL L)) ∧ Below w.heap.size w w' := by
 have HL := Lib.hid hL
 have HNL := Lib.hid hL.1
 have HV : Hid (∀ v ∈ L, ∀ W : World, Calls Tryz.prog 43 #[.agg #[.int .u8 (v.1 : Int), .int .i64 v.2.1, .string v.2.2]] W fun e w' => e = .returned (.int .i64 (vE v.1 v.2.1 v.2.2.data.toList)) ∧ Below W.heap.size W w') := fun v hvm W => zfe v.1 v.2.1 v.2.2 (hv v hvm).1 (hv v hvm).2 W
 clear hL hv
 go_enter Tryz.func65, Tryz.ntmps65
 go_wp2_with fail
 go_loopw [3] (fun i wr => ∃ k : Nat, k ≤ n ∧ i = .int .i64 (k : Int) ∧ Hid (Below w.heap.size w wr) ∧ Hid (okL (L.take k) = true)) (fun i _ => n - (intOf i).toNat)
 case atStart => exact ⟨0, Nat.zero_le _, rfl, Below.refl _ _, rfl⟩
 case round =>
  obtain ⟨k, hk, rfl, HB, HOK⟩ := hrel
  by_cases hlt : k < n
  · have hkl : k < L.length := by rw [HNL.out]; exact hlt
    have HVk := Lib.hid (HV.out L[k] (List.getElem_mem hkl))
    obtain ⟨b, off, rfl, hbl, c1, c2, c3⟩ := zhs (IsOf.later HL.out HB.out) hkl
    have hst := zyn hkl HOK.out
    have HBAD := Lib.hid (fun h => ydv (L := L) (k := k) h)
    have hv02 : vE L[k].1 L[k].2.1 L[k].2.2.data.toList = 0 ∨ vE L[k].1 L[k].2.1 L[k].2.2.data.toList = 2 := by unfold vE; split <;> simp
    generalize L[k] = vv at *
    obtain ⟨kd, nm, tx⟩ := vv
    dsimp only at c1 c2 c3 HVk hst hv02
    have HST := Lib.hid hst
    clear hst
    go_wp2_with fail
    refine (HVk.out _).mono ?_
    rintro e w2 ⟨rfl, hB2⟩
    have HB2 := Lib.hid (zab HB.out hB2)
    clear hB2 c1 c2 c3 hbl HVk
    rcases hv02 with h0 | h2
    · have HTN : Hid (okL (L.take (k + 1)) = true) := by unfold Hid; rw [HST.out, h0]; rfl
      rw [h0]
      clear h0
      go_wp2_with fail
      exact ⟨⟨k + 1, by omega, by go_num, HB2.out, HTN.out⟩, by simp [intOf]; omega⟩
    · have HTN : Hid (okL L = false) := HBAD.out (by rw [HST.out, h2]; rfl)
      rw [h2]
      clear h2
      go_wp2_with fail
      refine bodyPost_ret (v := .bool false) (by simp [results, Tryz.results65, go_sem]) rfl ⟨by rw [HTN.out], HB2.out⟩
  · have HTN : Hid (okL L = true) := by
     unfold Hid
     have := HOK.out
     rwa [List.take_of_length_le (by rw [HNL.out]; omega)] at this
    go_wp2_with fail
    refine bodyPost_ret (v := .bool true) (by simp [results, Tryz.results65, go_sem]) rfl ⟨by rw [HTN.out], HB.out⟩
end Go.Proofs.YtdhahiodnmmkeaaGreatDoor.Va
/- The reference's helpers for lists of values: a copy, cut short; equal lists. -/
namespace Go.Proofs.YtdhahiodnmmkeaaGreatDoor.Va
open Go Go.RowKit GM
set_option linter.unusedVariables false
set_option linter.unusedSimpArgs false
theorem zlo (v : V3) : ∀ u ∈ zcn v, u.oneCell' = true := by
 intro u hu; simp [zcn] at hu; rcases hu with rfl | rfl | rfl <;> rfl
theorem yd6 : (Tryz.prog.info? 26).map (fun i => (i.zero, i.size, i.bytes)) = some (some (.agg #[.int .u8 0, .int .i64 0, .string ByteArray.empty]), 3, 32) := by kernel_rfl
theorem zeroV : (Value.agg #[.int .u8 0, .int .i64 0, .string ByteArray.empty]).cells.size = 3 := rfl
abbrev OwnV (B : Nat) (w : World) (v : Value) (L : List V3) : Prop := OwnOf 26 zcn 3 B w v L
theorem zwr (a : Option Addr) (len cap : Nat) (L : List V3) (hl : len * 32 ≤ 140737488355328) (w : World) (hL : IsV w a len L) :
 Calls Tryz.prog 54 #[.slice a len cap] w fun e w' => (∃ v, e = .returned v ∧ OwnV w.heap.size w' v L) ∧ Below w.heap.size w w' := by
 go_enter Tryz.func54, Tryz.ntmps54
 go_wp2_with (at_builtin; refine zhl rfl (.const (.slice none 0 0)) (.tmp 3) 22 rfl Tryz.underlying22 _ 32 yd6 zeroV (by decide) (by decide) zav zlo w.heap.size _ [] rfl (OwnOf.nil _ _ _ _ _) a len cap L rfl hL (by simp only [List.length_nil, Nat.zero_add]; omega) (Nat.le_refl _) ?_)
 intro v' w1 ho hb
 have HO := Lib.hid ho
 have HB := Lib.hid hb
 clear ho hb
 go_wp2_with fail
 go_ret
 exact ⟨⟨_, rfl, by simpa using HO.out⟩, HB.out⟩
set_option maxHeartbeats 1600000 in
theorem yeo (a a' : Option Addr) (n cap cap' : Nat) (l : List V3) (hl : n ≤ 1000000) (w : World) (h1 : IsV w a n l) (h2 : IsV w a' n l) :
 Calls Tryz.prog 32 #[.slice a n cap, .slice a' n cap'] w fun e w' => e = .returned (.bool true) ∧ Below w.heap.size w w' := by
 have H1 := Lib.hid h1
 have H2 := Lib.hid h2
 clear h1 h2
 go_enter Tryz.func32, Tryz.ntmps32
 go_wp2_with fail
 go_loopw [5] (fun i wr => ∃ k : Nat, k ≤ n ∧ i = .int .i64 k ∧ Below w.heap.size w wr) (fun i _ => n - (intOf i).toNat)
 case atStart => exact ⟨0, Nat.zero_le _, rfl, Below.refl _ _⟩
 case round =>
  obtain ⟨k, hk, rfl, hB⟩ := hrel
  have HB := Lib.hid hB
  clear hB
  by_cases hlt : k < n
  · have hkl : k < l.length := by rw [H1.out.1]; exact hlt
    obtain ⟨b, off, rfl, hbl, c1, c2, c3⟩ := zhs (IsOf.later H1.out HB.out) hkl
    obtain ⟨b', off', rfl, hbl', d1, d2, d3⟩ := zhs (IsOf.later H2.out HB.out) hkl
    generalize l[k] = r at *
    obtain ⟨x1, x2, x3⟩ := r
    dsimp only at *
    go_wp2_with fail
    go_quiet (fail)
    go_wp2_with fail
    go_roundw
    case rel => exact ⟨k + 1, by omega, by go_num, ⟨HB.out.os, HB.out.tape, HB.out.output, HB.out.size, HB.out.block⟩⟩
    case measure => simp [intOf]; omega
  · go_wp2_with fail
    go_ret
    exact ⟨rfl, HB.out⟩
theorem zro {α : Type} {c : α → List Value} {n : Nat} (hn : ∀ x, (c x).length = n) (x : α) (u : Value) (j : Nat) (hj : j < n) : ∀ (L : List α) (k : Nat) (hk : k < L.length), c x = (c L[k]).set j u → (L.flatMap c).set (k * n + j) u = (L.set k x).flatMap c
 | [], k, hk, _ => by simp at hk
 | y :: L, 0, hk, h => by
  rw [List.set_cons_zero, List.flatMap_cons, List.flatMap_cons, h, List.set_append_left _ _ (by rw [hn]; omega), Nat.zero_mul, Nat.zero_add]
  rfl
 | y :: L, k + 1, hk, h => by
  have e : (k + 1) * n + j = n + (k * n + j) := by rw [Nat.add_mul]; omega
  rw [List.set_cons_succ, List.flatMap_cons, List.flatMap_cons, e, List.set_append_right _ _ (by rw [hn]; omega), hn, Nat.add_sub_cancel_left, zro hn x u j hj L k (by simpa using hk) h]
theorem OwnOf.setAt {α : Type} {c : α → List Value} {n : Nat} {e : TypeId} (hn : ∀ x, (c x).length = n) {B : Nat} {w : World} {g m cp : Nat} {L : List α} (h : OwnOf e c n B w (.slice (some ⟨g, 0, none⟩) m cp) L) {k j : Nat} (hk : k < L.length) (hj : j < n) {x : α} {u : Value} (hx : c x = (c L[k]).set j u) :
 OwnOf e c n B (w.setCell ⟨g, k * n + j, none⟩ u) (.slice (some ⟨g, 0, none⟩) m cp) (L.set k x) := by
 unfold OwnOf at *
 obtain ⟨h1, h2⟩ := h
 rw [List.length_set, ← zro hn x u j hj L k hk hx]
 refine ⟨by rw [List.length_set]; exact h1, ?_⟩
 rcases h2 with ⟨hv, _⟩ | ⟨g', cap, cur, hv, hg, hh, hc, hcm, hsz, hx⟩
 · cases hv
 · have hv' := hv
   injection hv' with h3 h4 h5
   injection h3 with h3
   injection h3 with h3
   subst h3
   refine .inr ⟨g, cap, cur.setIfInBounds (k * n + j) u, hv, hg, ?_, hc, hcm, by simpa using hsz, ?_⟩
   · simp [World.setCell, Array.getElem?_modify, hh]
   · rw [Array.toList_setIfInBounds, List.take_set, hx]
theorem OwnOf.there2 {α : Type} {c : α → List Value} {n : Nat} {e : TypeId} {B : Nat} {w : World} {a : Option Addr} {m cp : Nat} {L : List α} (h : OwnOf e c n B w (.slice a m cp) L) (h0 : 0 < L.length) :
 ∃ g, a = some ⟨g, 0, none⟩ ∧ B ≤ g ∧ g < w.heap.size ∧ w.there g 0 (L.length * n) := by
 have h' := h
 rcases h.2 with ⟨_, h2⟩ | ⟨g, cap, cur, hv, hg, hh, hc, hcur, hsz, hx⟩
 · omega
 · injection hv with h1 h2 h3
   subst h1; subst h2
   refine ⟨g, rfl, hg, (Array.getElem?_eq_some_iff.1 hh).1, fun j hj => ?_⟩
   have := World.ownsRow.cellAt h' j hj
   rw [Nat.zero_add]
   exact ⟨by rw [this]; simp [h.1, hj], by simp [World.frozen?, hh]⟩
theorem zyp {α : Type} (f : α → α) (K : List α) (k : Nat) (hk : k < K.length) : ((K.take k).map f ++ K.drop k).set k (f K[k]) = (K.take (k + 1)).map f ++ K.drop (k + 1) := by
 have hl : ((K.take k).map f).length = k := by rw [List.length_map, List.length_take]; omega
 rw [List.set_append_right _ _ (by omega), hl, Nat.sub_self, List.drop_eq_getElem_cons hk, List.set_cons_zero, List.take_succ_eq_append_getElem hk, List.map_append, List.append_assoc]
 rfl
theorem ya3 {α : Type} (f : α → α) (K : List α) (k : Nat) (hk : k < K.length) (h : k < ((K.take k).map f ++ K.drop k).length) : ((K.take k).map f ++ K.drop k)[k] = K[k] := by
 have hl : ((K.take k).map f).length = k := by rw [List.length_map, List.length_take]; omega
 rw [List.getElem_append_right (by omega), List.getElem_drop]
 congr 1
 omega
def cutB (s : ByteArray) : ByteArray := s.extract 0 (min (s.size : Int) 300).toNat
def cutV (v : V3) : V3 := (v.1, v.2.1, cutB v.2.2)
def fewL (L : List V3) : List V3 := (L.take 20).map cutV
theorem zy6 (L : List V3) : (fewL L).length = min L.length 20 := by unfold fewL; rw [List.length_map, List.length_take, Nat.min_comm]
theorem yeu (s : ByteArray) : (cutB s).size ≤ 300 := by
 unfold cutB
 rw [ByteArray.size_extract]
 omega
theorem yei {L : List V3} {v : V3} (h : v ∈ fewL L) : v.2.2.size ≤ 300 := by
 unfold fewL at h
 obtain ⟨u, _, rfl⟩ := List.mem_map.1 h
 exact yeu _
theorem yej {L : List V3} (hL : ∀ v ∈ L, InI v.2.1) {v : V3} (h : v ∈ fewL L) : InI v.2.1 := by
 unfold fewL at h
 obtain ⟨u, hu, rfl⟩ := List.mem_map.1 h
 exact hL u (List.mem_of_mem_take hu)
theorem IsOf.head {α : Type} {c : α → List Value} {n : Nat} {w : World} {a : Option Addr} {m : Nat} {L : List α} (h : IsOf c n w a m L) (k : Nat) : IsOf c n w a (min m k) (L.take k) := by
 refine ⟨by rw [List.length_take, h.1, Nat.min_comm], fun h0 => ?_⟩
 obtain ⟨b, off, ha, hr⟩ := h.2 (by omega)
 refine ⟨b, off, ha, hr.1, fun i hi j u hu => ?_⟩
 rw [List.length_take] at hi
 rw [List.getElem_take] at hu
 exact hr.2 i (by omega) j u hu
set_option maxHeartbeats 3200000 in
theorem yeh (a : Option Addr) (n cap : Nat) (L : List V3) (hc : n ≤ cap) (w : World) (hL : IsV w a n L) (hv : ∀ v ∈ L, v.2.2.size ≤ maxLen) :
 Calls Tryz.prog 23 #[.slice a n cap] w fun e w' => (∃ v, e = .returned v ∧ OwnV w.heap.size w' v (fewL L)) ∧ Below w.heap.size w w' := by
 have HL := Lib.hid hL
 have HH := Lib.hid (IsOf.head hL 20)
 have HV : Hid (∀ v ∈ L.take 20, v.2.2.size ≤ maxLen) := fun v h => hv v (List.mem_of_mem_take h)
 clear hL hv
 go_enter Tryz.func23, Tryz.ntmps23
 go_wp2_with fail
 obtain ⟨m, hm⟩ : ∃ m, (min (n : Int) 20).toNat = m := ⟨_, rfl⟩
 rw [hm]
 have hm2 : min n 20 = m := by omega
 rw [hm2] at HH
 have hm3 : m ≤ 20 := by omega
 refine (zwr a m cap (L.take 20) (by omega) _ HH.out).mono ?_
 rintro e w1 ⟨⟨v, rfl, hO⟩, hB⟩
 have HKL := Lib.hid HH.out.1
 have HR : Hid (fewL L = (L.take 20).map cutV) := rfl
 generalize L.take 20 = K at *
 clear HL HH hm hm2
 have HB1 := Lib.hid hB
 have HO1 := Lib.hid (show OwnV w.heap.size w1 v ((K.take 0).map cutV ++ K.drop 0) from hO)
 obtain ⟨va, vc, hve, _⟩ := hO.isOf zav
 rw [HKL.out] at hve
 subst hve
 clear hO hB
 go_wp2_with fail
 go_loopw [4] (fun i wr => ∃ k : Nat, k ≤ m ∧ i = .int .i64 (k : Int) ∧ Hid (Below w.heap.size w wr) ∧ Hid (OwnV w.heap.size wr (.slice va m vc) ((K.take k).map cutV ++ K.drop k))) (fun i _ => m - (intOf i).toNat)
 case atStart => exact ⟨0, Nat.zero_le _, rfl, HB1.out, HO1.out⟩
 case round =>
  obtain ⟨k, hk, rfl, HB, HO⟩ := hrel
  clear HB1 HO1
  by_cases hlt : k < m
  · have hkl : k < K.length := by rw [HKL.out]; exact hlt
    have hml : ((K.take k).map cutV ++ K.drop k).length = m := by simp; have := HKL.out; omega
    obtain ⟨g, rfl, hg, hgl, hth⟩ := OwnOf.there2 HO.out (by rw [hml]; omega)
    obtain ⟨b, off, hb, hbl, c1, c2, c3⟩ := zhs (k := k) (by obtain ⟨a', c', he, h⟩ := HO.out.isOf zav; cases he; exact h) (by rw [hml]; exact hlt)
    cases hb
    rw [ya3 cutV K k hkl] at c3
    rw [Nat.zero_add] at c3
    have hfz := (hth (k * 3 + 2) (by rw [hml]; omega)).2
    rw [Nat.zero_add] at hfz
    have HN := Lib.hid (OwnOf.setAt zav HO.out (k := k) (j := 2) (by rw [hml]; exact hlt) (by decide) (x := cutV K[k]) (u := .string (cutB K[k].2.2)) (by rw [ya3 cutV K k hkl]; rfl))
    rw [zyp cutV K k hkl] at HN
    have HBN := Lib.hid (HB.out.setCell (p := ⟨g, k * 3 + 2, none⟩) hg (.string (cutB K[k].2.2)))
    have hvz := HV.out K[k] (List.getElem_mem hkl)
    have HC : Hid (cutB K[k].2.2 = K[k].2.2.extract 0 (min (K[k].2.2.size : Int) 300).toNat) := rfl
    clear c1 c2 hth
    generalize K[k].2.2 = tx at *
    have hm0 : 0 ≤ min (tx.size : Int) 300 := by omega
    have hm1 : min (tx.size : Int) 300 ≤ (tx.size : Int) := by omega
    rw [HC.out] at HN HBN
    go_wp2_with fail
    go_region
    go_wp2_with fail
    exact ⟨⟨k + 1, by omega, by go_num, HBN.out.drew, OwnOf.drew HN.out⟩, by simp [intOf]; omega⟩
  · go_wp2_with fail
    go_ret
    refine ⟨⟨_, rfl, ?_⟩, HB.out⟩
    have h := HO.out
    rw [List.take_of_length_le (by rw [HKL.out]; omega), List.drop_of_length_le (by rw [HKL.out]; omega), List.append_nil] at h
    rw [HR.out]
    exact h
end Go.Proofs.YtdhahiodnmmkeaaGreatDoor.Va
/- The values of the examples: some list of values whose texts are short. -/
namespace Go.Proofs.YtdhahiodnmmkeaaGreatDoor.Va
open Go Go.RowKit GM
set_option linter.unusedVariables false
set_option linter.unusedSimpArgs false
theorem zyi {B : Nat} (w : World) (hB : B ≤ w.heap.size) (cs : Array Value) (M : List V3) (hM : M.length ≤ 1000) (h : cs = (M.flatMap zcn).toArray) : OwnV B (w.alloc (.cells cs 26)) (.slice (some ⟨w.heap.size, 0, none⟩) M.length M.length) M := by
 subst h
 have hl := zic zav M
 refine ⟨hl, .inr ⟨w.heap.size, M.length, _, rfl, hB, World.alloc_heap_new w _, Nat.le_refl _, by unfold maxLen; omega, by simpa using hl, ?_⟩⟩
 show (M.flatMap zcn).take (M.length * 3) = M.flatMap zcn
 rw [← hl, List.take_length]
theorem zhk {ops : Array Oper} {rest : List Oper} {o : Oper} {a : Act} {w : World} {Q : Exit → Act → World → Prop} (hgd : o.guard = none) (s x : Operand)
 (ho : o.op = .call { callee := .builtin .append, args := #[s, x], argTypes := #[22, 22] }) (B : Nat) (v : Value) (L : List V3) (hs : a.eval s = v) (hown : OwnV B w v L) (g : Nat) (u : V3) (hx : a.eval x = .slice (some ⟨g, 0, none⟩) 1 1)
 (hu : IsV w (some ⟨g, 0, none⟩) 1 [u]) (hl : L.length ≤ 1000) (hB : B ≤ w.heap.size) (h : ∀ v' w', OwnV B w' v' (L ++ [u]) → Below B w w' → wpList Tryz.prog ops Q rest (a.put o.dst v') w') : wpList Tryz.prog ops Q (o :: rest) a w :=
 zhl hgd s x 22 ho Tryz.underlying22 _ 32 yd6 zeroV (by decide) (by decide) zav zlo B v L hs hown _ 1 1 [u] hx hu (by omega) hB h
def okV (v : V3) : Prop := v.2.2.size ≤ 300 ∧ InI v.2.1
theorem zvg {L : List V3} (h : ∀ u ∈ L, okV u) {k : Nat} {n : Int} (hn : InI n) : ∀ u ∈ L ++ [(k, n, (⟨#[]⟩ : ByteArray))], okV u := fun u hu => by
 rcases List.mem_append.1 hu with hu | hu
 · exact h u hu
 · rw [List.mem_singleton.1 hu]; exact ⟨show (⟨#[]⟩ : ByteArray).size ≤ 300 by decide, hn⟩
theorem yh5 (j : Nat) (hj : j < 17) : ∃ x : Int, (∀ w, (Instr.index 42 (.agg #[.int .i64 0, .int .i64 1, .int .i64 (-1), .int .i64 4999, .int .i64 5000, .int .i64 10000, .int .i64 (-10000), .int .i64 15000, .int .i64 (-15000), .int .i64 20000, .int .i64 25000, .int .i64 30000, .int .i64 123456789, .int .i64 4611686018427387904, .int .i64 (-4611686018427387904), .int .i64 9223372036854775807, .int .i64 (-9223372036854775807)]) (.int .i64 (j : Int))).run Tryz.prog w = .ok (.int .i64 x) w) ∧ InI x := by
 obtain rfl | rfl | rfl | rfl | rfl | rfl | rfl | rfl | rfl | rfl | rfl | rfl | rfl | rfl | rfl | rfl | rfl := (by omega : j = 0 ∨ j = 1 ∨ j = 2 ∨ j = 3 ∨ j = 4 ∨ j = 5 ∨ j = 6 ∨ j = 7 ∨ j = 8 ∨ j = 9 ∨ j = 10 ∨ j = 11 ∨ j = 12 ∨ j = 13 ∨ j = 14 ∨ j = 15 ∨ j = 16)
 · exact ⟨0, fun w => by kernel_rfl, by unfold InI; omega⟩
 · exact ⟨1, fun w => by kernel_rfl, by unfold InI; omega⟩
 · exact ⟨(-1), fun w => by kernel_rfl, by unfold InI; omega⟩
 · exact ⟨4999, fun w => by kernel_rfl, by unfold InI; omega⟩
 · exact ⟨5000, fun w => by kernel_rfl, by unfold InI; omega⟩
 · exact ⟨10000, fun w => by kernel_rfl, by unfold InI; omega⟩
 · exact ⟨(-10000), fun w => by kernel_rfl, by unfold InI; omega⟩
 · exact ⟨15000, fun w => by kernel_rfl, by unfold InI; omega⟩
 · exact ⟨(-15000), fun w => by kernel_rfl, by unfold InI; omega⟩
 · exact ⟨20000, fun w => by kernel_rfl, by unfold InI; omega⟩
 · exact ⟨25000, fun w => by kernel_rfl, by unfold InI; omega⟩
 · exact ⟨30000, fun w => by kernel_rfl, by unfold InI; omega⟩
 · exact ⟨123456789, fun w => by kernel_rfl, by unfold InI; omega⟩
 · exact ⟨4611686018427387904, fun w => by kernel_rfl, by unfold InI; omega⟩
 · exact ⟨(-4611686018427387904), fun w => by kernel_rfl, by unfold InI; omega⟩
 · exact ⟨9223372036854775807, fun w => by kernel_rfl, by unfold InI; omega⟩
 · exact ⟨(-9223372036854775807), fun w => by kernel_rfl, by unfold InI; omega⟩
set_option maxRecDepth 100000 in
set_option maxHeartbeats 12800000 in
theorem zvs (w : World) : Calls Tryz.prog 8 #[] w fun e w' => (∃ v L, e = .returned v ∧ OwnV w.heap.size w' v L ∧ L.length ≤ 100 ∧ ∀ u ∈ L, okV u) ∧ Below w.heap.size w w' := by
 have HO := Lib.hid (zyi w (Nat.le_refl _) #[.int .u8 0, .int .i64 0, .string ⟨#[]⟩, .int .u8 2, .int .i64 0, .string ⟨#[]⟩, .int .u8 2, .int .i64 1, .string ⟨#[]⟩, .int .u8 3, .int .i64 0, .string ⟨#[]⟩, .int .u8 3, .int .i64 0, .string ⟨#[51]⟩, .int .u8 3, .int .i64 0, .string ⟨#[32, 45, 50, 46, 53, 32]⟩, .int .u8 3, .int .i64 0, .string ⟨#[120]⟩, .int .u8 3, .int .i64 0, .string ⟨#[84, 82, 85, 69]⟩, .int .u8 2, .int .i64 2, .string ⟨#[]⟩, .int .u8 5, .int .i64 0, .string ⟨#[]⟩, .int .u8 4, .int .i64 7, .string ⟨#[]⟩, .int .u8 1, .int .i64 (-9223372036854775808), .string ⟨#[]⟩] [(0, 0, ⟨#[]⟩), (2, 0, ⟨#[]⟩), (2, 1, ⟨#[]⟩), (3, 0, ⟨#[]⟩), (3, 0, ⟨#[51]⟩), (3, 0, ⟨#[32, 45, 50, 46, 53, 32]⟩), (3, 0, ⟨#[120]⟩), (3, 0, ⟨#[84, 82, 85, 69]⟩), (2, 2, ⟨#[]⟩), (5, 0, ⟨#[]⟩), (4, 7, ⟨#[]⟩), (1, (-9223372036854775808), ⟨#[]⟩)] (by decide) rfl)
 have HK : Hid (∀ u ∈ ([(0, 0, ⟨#[]⟩), (2, 0, ⟨#[]⟩), (2, 1, ⟨#[]⟩), (3, 0, ⟨#[]⟩), (3, 0, ⟨#[51]⟩), (3, 0, ⟨#[32, 45, 50, 46, 53, 32]⟩), (3, 0, ⟨#[120]⟩), (3, 0, ⟨#[84, 82, 85, 69]⟩), (2, 2, ⟨#[]⟩), (5, 0, ⟨#[]⟩), (4, 7, ⟨#[]⟩), (1, (-9223372036854775808), ⟨#[]⟩)] : List V3), okV u) := by
  intro u hu
  simp only [List.mem_cons, List.not_mem_nil, or_false] at hu
  rcases hu with rfl | rfl | rfl | rfl | rfl | rfl | rfl | rfl | rfl | rfl | rfl | rfl <;> exact ⟨by decide, by unfold InI; decide⟩
 have HB := Lib.hid (zaa w (.cells #[.int .u8 0, .int .i64 0, .string ⟨#[]⟩, .int .u8 2, .int .i64 0, .string ⟨#[]⟩, .int .u8 2, .int .i64 1, .string ⟨#[]⟩, .int .u8 3, .int .i64 0, .string ⟨#[]⟩, .int .u8 3, .int .i64 0, .string ⟨#[51]⟩, .int .u8 3, .int .i64 0, .string ⟨#[32, 45, 50, 46, 53, 32]⟩, .int .u8 3, .int .i64 0, .string ⟨#[120]⟩, .int .u8 3, .int .i64 0, .string ⟨#[84, 82, 85, 69]⟩, .int .u8 2, .int .i64 2, .string ⟨#[]⟩, .int .u8 5, .int .i64 0, .string ⟨#[]⟩, .int .u8 4, .int .i64 7, .string ⟨#[]⟩, .int .u8 1, .int .i64 (-9223372036854775808), .string ⟨#[]⟩] 26))
 obtain ⟨M, hM⟩ : ∃ M : List V3, M = [(0, 0, ⟨#[]⟩), (2, 0, ⟨#[]⟩), (2, 1, ⟨#[]⟩), (3, 0, ⟨#[]⟩), (3, 0, ⟨#[51]⟩), (3, 0, ⟨#[32, 45, 50, 46, 53, 32]⟩), (3, 0, ⟨#[120]⟩), (3, 0, ⟨#[84, 82, 85, 69]⟩), (2, 2, ⟨#[]⟩), (5, 0, ⟨#[]⟩), (4, 7, ⟨#[]⟩), (1, (-9223372036854775808), ⟨#[]⟩)] := ⟨_, rfl⟩
 have hMl : M.length = 12 := by rw [hM]; rfl
 rw [← hM] at HO HK
 rw [hMl] at HO
 have HML := Lib.hid hMl
 clear hMl
 go_enter Tryz.func8, Tryz.ntmps8
 go_wp2_with fail
 clear hM
 generalize w.alloc (.cells #[.int .u8 0, .int .i64 0, .string ⟨#[]⟩, .int .u8 2, .int .i64 0, .string ⟨#[]⟩, .int .u8 2, .int .i64 1, .string ⟨#[]⟩, .int .u8 3, .int .i64 0, .string ⟨#[]⟩, .int .u8 3, .int .i64 0, .string ⟨#[51]⟩, .int .u8 3, .int .i64 0, .string ⟨#[32, 45, 50, 46, 53, 32]⟩, .int .u8 3, .int .i64 0, .string ⟨#[120]⟩, .int .u8 3, .int .i64 0, .string ⟨#[84, 82, 85, 69]⟩, .int .u8 2, .int .i64 2, .string ⟨#[]⟩, .int .u8 5, .int .i64 0, .string ⟨#[]⟩, .int .u8 4, .int .i64 7, .string ⟨#[]⟩, .int .u8 1, .int .i64 (-9223372036854775808), .string ⟨#[]⟩] 26) = wa at *
 go_loopw [1, 2] (fun u i wr => ∃ (k : Nat) (L : List V3), k ≤ 6 ∧ i = .int .i64 ((k : Int) + 1) ∧ Hid (L.length = 12 + k) ∧ Hid (∀ u ∈ L, okV u) ∧ Hid (OwnV w.heap.size wr u L) ∧ Hid (Below w.heap.size w wr)) (fun _ i _ => 8 - (intOf i).toNat)
 case atStart => exact ⟨0, M, by omega, rfl, HML.out, HK.out, HO.out, HB.out⟩
 case round =>
  clear HML HK HO HB
  obtain ⟨k, L, hk, rfl, HL, HK, HO, HB⟩ := hrel
  obtain ⟨ua, uc, rfl, _⟩ := OwnOf.isOf zav HO.out
  have hws : w.heap.size ≤ wr.heap.size := HB.out.size
  by_cases hlt : k < 6
  · have d1 : decide ((k : Int) + 1 ≤ 6) = true := by simp; omega
    have hll : L.length ≤ 100 := by have := HL.out; omega
    go_wp2_with (at_builtin; go_loud (refine zhk rfl (.tmp 22) (.tmp 25) rfl w.heap.size _ L rfl (OwnOf.alloc HO.out _) wr.heap.size (4, (k : Int) + 1, ⟨#[]⟩) rfl (zcr _ _ _ _ rfl) (by omega) (by rw [World.size_alloc]; omega) ?_; intro v5 w5 ho5 hg5; have HB5 := Lib.hid ((HB.out.alloc HB.out.size _).trans hg5); have HO5 := Lib.hid ho5; clear hg5 ho5))
    exact ⟨⟨k + 1, L ++ [(4, (k : Int) + 1, (⟨#[]⟩ : ByteArray))], by omega, by go_num, by have := HL.out; unfold Hid; simp; omega, zvg HK.out (by unfold InI; omega), HO5.out, HB5.out⟩, by simp [intOf]; omega⟩
  · have d1 : decide ((k : Int) + 1 ≤ 6) = false := by simp; omega
    have HL2 : Hid (L.length = 18 + 0) := by have := HL.out; unfold Hid; omega
    go_wp2_with fail
    go_loopw [1, 28] (fun u i wr => ∃ (k : Nat) (L : List V3), k ≤ 17 ∧ i = .int .i64 (k : Int) ∧ Hid (L.length = 18 + k) ∧ Hid (∀ u ∈ L, okV u) ∧ Hid (OwnV w.heap.size wr u L) ∧ Hid (Below w.heap.size w wr)) (fun _ i _ => 17 - (intOf i).toNat)
    case atStart => exact ⟨0, L, by omega, rfl, HL2.out, HK.out, HO.out, HB.out⟩
    case round =>
     clear HL HL2 HK HO HB hws hlt d1
     obtain ⟨j, L, hj, rfl, HL, HK, HO, HB⟩ := hrel
     obtain ⟨ua, uc, rfl, _⟩ := OwnOf.isOf zav HO.out
     have hws : w.heap.size ≤ wr.heap.size := HB.out.size
     by_cases hlt2 : j < 17
     · have hll : L.length ≤ 100 := by have := HL.out; omega
       obtain ⟨x, hx, hxi⟩ := yh5 j hlt2
       have HXI := Lib.hid hxi
       clear hxi
       go_wp2_with (at_builtin; go_loud (refine zhk rfl (.tmp 31) (.tmp 34) rfl w.heap.size _ L rfl (OwnOf.alloc HO.out _) wr.heap.size (1, x, ⟨#[]⟩) rfl (zcr _ _ _ _ rfl) (by omega) (by rw [World.size_alloc]; omega) ?_; intro v5 w5 ho5 hg5; have HB5 := Lib.hid ((HB.out.alloc HB.out.size _).trans hg5); have HO5 := Lib.hid ho5; clear hg5 ho5))
       exact ⟨⟨j + 1, L ++ [(1, x, (⟨#[]⟩ : ByteArray))], by omega, by go_num, by have := HL.out; unfold Hid; simp; omega, zvg HK.out HXI.out, HO5.out, HB5.out⟩, by simp [intOf]; omega⟩
     · go_wp2_with fail
       go_ret
       exact ⟨⟨_, L, rfl, HO.out, by have := HL.out; omega, HK.out⟩, HB.out⟩
end Go.Proofs.YtdhahiodnmmkeaaGreatDoor.Va
/- Lists of blank values that make lays. -/
namespace Go.Proofs.YtdhahiodnmmkeaaGreatDoor.Va
open Go Go.RowKit GM
set_option linter.unusedVariables false
set_option linter.unusedSimpArgs false
def bl3 : V3 := (0, 0, ⟨#[]⟩)
theorem ydx (n : Nat) : madeCells #[.int .u8 0, .int .i64 0, .string ⟨#[]⟩] (n * 3) = ((List.replicate n bl3).flatMap zcn).toArray := by
 apply Array.ext_getElem?
 intro i
 by_cases hi : i < n * 3
 · have hr : i / 3 < (List.replicate n bl3).length := by rw [List.length_replicate]; omega
   have h := zmm zav (List.replicate n bl3) (i / 3) hr (i % 3) (by omega)
   rw [show i / 3 * 3 + i % 3 = i by omega, List.getElem_replicate] at h
   rw [show (List.flatMap zcn (List.replicate n bl3)).toArray[i]? = (List.flatMap zcn (List.replicate n bl3))[i]? from List.getElem?_toArray .., h]
   obtain h3 | h3 | h3 := (by omega : i % 3 = 0 ∨ i % 3 = 1 ∨ i % 3 = 2)
   all_goals
    rw [h3]
    simp [madeCells, hi, h3, bl3, zcn]
 · have hl := zic zav (List.replicate n bl3)
   rw [List.length_replicate] at hl
   rw [Array.getElem?_eq_none (by rw [size_madeCells]; omega), show (List.flatMap zcn (List.replicate n bl3)).toArray[i]? = (List.flatMap zcn (List.replicate n bl3))[i]? from List.getElem?_toArray .., List.getElem?_eq_none (by omega)]
theorem ya4 (n : Nat) (hn : n ≤ 1000) (w : World) : (Instr.makeSlice 22 (.int .i64 (n : Int)) (.int .i64 (n : Int))).run Tryz.prog w = .ok (.slice (some ⟨w.heap.size, 0, none⟩) n n) (w.alloc (.cells ((List.replicate n bl3).flatMap zcn).toArray 26)) := by
 obtain ⟨i0, hi, hzz⟩ := Option.map_eq_some_iff.1 yd6
 simp only [Prod.mk.injEq] at hzz
 obtain ⟨hz, hs, hb⟩ := hzz
 have hr := run_make (P := Tryz.prog) w _ _ i0 _ Tryz.underlying22 hi hz .i64 .i64 n n (by omega) (Int.le_refl _) (by rw [hb]; omega) (by omega)
 simp only [Int.toNat_natCast, hs] at hr
 have hm : madeCells (Value.agg #[.int .u8 0, .int .i64 0, .string ByteArray.empty]).cells (n * 3) = ((List.replicate n bl3).flatMap zcn).toArray := ydx n
 rw [hm] at hr
 exact hr
theorem za0 (w : World) (cs : Array Value) (t : TypeId) (M : List V3) (h : cs = (M.flatMap zcn).toArray) : IsV (w.alloc (.cells cs t)) (some ⟨w.heap.size, 0, none⟩) M.length M := by
 subst h
 refine ⟨rfl, fun _ => ⟨w.heap.size, 0, rfl, by simp, fun k hk j v hv => ?_⟩⟩
 have hj : j < 3 := by rw [← zav M[k]]; exact (List.getElem?_eq_some_iff.1 hv).1
 have := zmm zav M k hk j hj
 rw [hv] at this
 simp [this]
theorem yhd {w : World} {b off n : Nat} {L : List V3} (h : IsV w (some ⟨b, off, none⟩) n L) (k : Nat) (hk : k ≤ n) : IsV w (some ⟨b, off + k * 3, none⟩) (n - k) (L.drop k) := by
 refine ⟨by rw [List.length_drop, h.1], fun h0 => ?_⟩
 obtain ⟨b', off', e, hr⟩ := h.2 (by omega)
 cases e
 refine ⟨b, off + k * 3, rfl, hr.1, fun i hi j u hu => ?_⟩
 rw [List.length_drop] at hi
 rw [List.getElem_drop] at hu
 have := hr.2 (k + i) (by omega) j u hu
 rw [show off + k * 3 + i * 3 + j = off + (k + i) * 3 + j by rw [Nat.add_mul]; omega]
 exact this
theorem cap9 {B : Nat} {w : World} {a : Option Addr} {m cp : Nat} {M : List V3} (h : OwnV B w (.slice a m cp) M) : m ≤ cp := by
 rcases h.2 with ⟨h1, _⟩ | ⟨g, cap, cur, hv, _, _, hc, _⟩
 · injection h1 with h1 h2 h3; omega
 · injection hv with h1 h2 h3; omega
def SlW (L : List V3) : Fact := fun v X => ∃ a cap, v = .slice a L.length cap ∧ IsV X a L.length L ∧ L.length ≤ cap
theorem zsa (L : List V3) : zkb (SlW L) := fun _ _ _ hB ⟨a, c, e, h, hc⟩ => ⟨a, c, e, IsOf.later h hB, hc⟩
theorem zby : ∀ u ∈ ([] : List V3), okV u := fun u hu => by simp at hu
theorem zan {v : V3} {L : List V3} (h : okV v) (hL : ∀ u ∈ L, okV u) : ∀ u ∈ v :: L, okV u := fun u hu => by
 rcases List.mem_cons.1 hu with rfl | hu
 · exact h
 · exact hL u hu
theorem ya0 (n : Nat) : ∀ u ∈ List.replicate n bl3, okV u := fun u hu => by
 rw [(List.mem_replicate.1 hu).2]
 exact ⟨by decide, by unfold InI bl3; decide⟩
theorem zym {L : List V3} (h : ∀ u ∈ L, okV u) : ∀ v ∈ L, v.2.2.size ≤ maxLen ∧ InI v.2.1 := fun v hv => ⟨Nat.le_trans (h v hv).1 (by unfold maxLen; decide), (h v hv).2⟩
end Go.Proofs.YtdhahiodnmmkeaaGreatDoor.Va
/- ftext.convert: its contract (the walk). -/
namespace Go.Proofs.YtdhahiodnmmkeaaGreatDoor.Va
open Go Go.RowKit GM
set_option linter.unusedVariables false
set_option linter.unusedSimpArgs false
set_option maxRecDepth 100000 in
set_option maxHeartbeats 12800000 in
theorem zpz (ks : ByteArray) (a : Option Addr) (n cap : Nat) (L : List V3) (w : World) (hL : IsV w a n L) (hn : n ≤ ks.size) (hk20 : ks.size ≤ 20) (hks : ∀ c ∈ ks.data.toList, c = 115 ∨ c = 110)
 (hv : ∀ v ∈ L, v.2.2.size ≤ 2000 ∧ InI v.2.1) (hvn : ∀ k (h1 : k < L.length) (h2 : k < ks.data.toList.length), ks.data.toList[k] = 110 → InI (cvR 1 L[k].1 L[k].2.1 L[k].2.2).2.1) (hT : Tb w) :
 Calls Tryz.prog 79 #[.string ks, .slice a n cap] w fun e w' => CvP (zag ks.data.toList L [] []) (w.heap.size + 2) e w' ∧ Below w.heap.size w w' := by
 have HL := Lib.hid hL
 have HNL := Lib.hid hL.1
 have HKS := Lib.hid hks
 have HV := Lib.hid hv
 have HVN := Lib.hid hvn
 have HT := Lib.hid hT
 have HKL : Hid (ks.data.toList.length = ks.size) := Array.length_toList
 obtain ⟨R, hR⟩ : ∃ R, zag ks.data.toList L [] [] = R := ⟨_, rfl⟩
 rw [hR]
 have HR : Hid (zag (ks.data.toList.drop 0) (L.drop 0) [] [] = R) := by rw [List.drop_zero, List.drop_zero]; exact hR
 clear hL hks hv hvn hT hR
 have l1 := zaa w (.cells #[.slice none 0 0, .slice none 0 0] 82)
 have l2 := zaa (w.alloc (.cells #[.slice none 0 0, .slice none 0 0] 82)) (.cells #[.int .u8 0, .int .i64 0, .string ⟨#[]⟩] 26)
 have hX := B3.start (w.alloc (.cells #[.slice none 0 0, .slice none 0 0] 82)) 0 0 ⟨#[]⟩
 rw [World.size_alloc] at hX
 have hA : A2 (w.alloc (.cells #[.slice none 0 0, .slice none 0 0] 82)) w.heap.size (.slice none 0 0) (.slice none 0 0) := World.alloc_heap_new w _
 have HC : Hid (Cv w ((w.alloc (.cells #[.slice none 0 0, .slice none 0 0] 82)).alloc (.cells #[.int .u8 0, .int .i64 0, .string ⟨#[]⟩] 26)) (.slice none 0 0) (.slice none 0 0) [] []) := ⟨hA.later l2, hX, OwnOf.nil _ _ _ _ _, OwnOf.nil _ _ _ _ _, zab l1 l2⟩
 clear l1 l2 hX hA
 go_enter Tryz.func79, Tryz.ntmps79
 go_wp2_with fail
 generalize (w.alloc (.cells #[.slice none 0 0, .slice none 0 0] 82)).alloc (.cells #[.int .u8 0, .int .i64 0, .string ⟨#[]⟩] 26) = w0 at *
 go_loopw [12] (fun i wr => ∃ (k : Nat) (T : List ByteArray) (W : List Int) (u v : Value), k ≤ n ∧ i = .int .i64 (k : Int) ∧ Hid (Cv w wr u v T W) ∧ Hid (zag (ks.data.toList.drop k) (L.drop k) T W = R) ∧ Hid (T.length ≤ k ∧ W.length ≤ k)) (fun i _ => n - (intOf i).toNat)
 case atStart => exact ⟨0, [], [], _, _, Nat.zero_le _, rfl, HC.out, HR.out, Nat.le_refl _, Nat.le_refl _⟩
 case round =>
  obtain ⟨k, T, W, u, v, hk, rfl, HCr, HRr, HLN⟩ := hrel
  clear HC HR
  by_cases hlt : k < n
  · have hkl : k < L.length := by rw [HNL.out]; exact hlt
    have hks2 : k < ks.size := by omega
    have hkk : k < ks.data.toList.length := by rw [HKL.out]; exact hks2
    have hst := zlm hkk hkl T W
    rw [HRr.out] at hst
    have hkd := HKS.out _ (List.getElem_mem hkk)
    have hkg : ks.data.toList[k] = ks[k] := rfl
    obtain ⟨hvs, hvi⟩ := HV.out L[k] (List.getElem_mem hkl)
    have hvr := HVN.out k hkl hkk
    obtain ⟨b, off, rfl, hrow⟩ := (IsOf.later HL.out HCr.out.b).2 (by omega)
    have c1 : wr.cell? ⟨b, off + k * 3, none⟩ = some (.int .u8 (L[k].1 : Int)) := by have := hrow.2 k hkl 0 _ rfl; rwa [Nat.add_zero] at this
    have c2 : wr.cell? ⟨b, off + k * 3 + 1, none⟩ = some (.int .i64 L[k].2.1) := hrow.2 k hkl 1 _ rfl
    have c3 : wr.cell? ⟨b, off + k * 3 + 2, none⟩ = some (.string L[k].2.2) := hrow.2 k hkl 2 _ rfl
    have hbl := hrow.1
    clear hrow
    rw [hkg] at hst hkd hvr
    generalize L[k] = vv at *
    obtain ⟨kd, nm, tx⟩ := vv
    dsimp only at c1 c2 c3 hvs hvi hvr
    have HST := Lib.hid hst
    have HVR := Lib.hid hvr
    have HX := Lib.hid (B3.start wr kd nm tx)
    have HCx := Lib.hid (HCr.out.later (zaa wr (.cells #[.int .u8 (kd : Int), .int .i64 nm, .string tx] 26)))
    have HTx := Lib.hid (HT.out.later HCx.out.b)
    have HLT := Lib.hid HCr.out.lt
    have hq8 : w.heap.size + 1 < wr.heap.size := HCr.out.f.lt
    clear hst hvr HRr hkg HCr
    rcases hkd with hkc | hkc
    · have hcv : (ks[k].toNat : Int) = 115 := by rw [hkc]; rfl
      have HCK := Lib.hid (fun W hW => zqj kd nm tx hvs hvi W hW)
      have hck : cvK ks[k] (kd, nm, tx) = cvR 3 kd nm tx := by unfold cvK; rw [hkc]; rfl
      rw [hck, hkc] at HST
      clear hck hkc
      generalize cvR 3 kd nm tx = r at *
      obtain ⟨rk, rn, rs⟩ := r
      dsimp only at HCK HST
      go_wp2_with fail
      generalize wr.alloc (.cells #[.int .u8 (kd : Int), .int .i64 nm, .string tx] 26) = wb at *
      refine (HCK.out _ HTx.out).mono ?_
      rintro e w1 ⟨rfl, hB1⟩
      have hX1 := HX.out.later hB1
      have HC1 := Lib.hid (HCx.out.later hB1)
      clear hB1 HX HCx HTx HCK
      obtain ⟨x0, x1, x2, z0, z1, z2⟩ := hX1.cells
      have hXl := hX1.lt
      obtain ⟨hq, hg⟩ := zae hX1 rk rn rs
      have HC2 := Lib.hid (HC1.out.other hg hq8 HLT.out.1 HLT.out.2)
      have HQ := Lib.hid hq
      clear hq hg hX1 HC1
      go_upto_region 8 with fail
      clear x0 x1 x2 z0 z1 z2
      generalize ((w1.setCell ⟨wr.heap.size, 0, none⟩ (.int .u8 (rk : Int))).setCell ⟨wr.heap.size, 1, none⟩ (.int .i64 rn)).setCell ⟨wr.heap.size, 2, none⟩ (.string rs) = w2 at *
      have hq8l : wr.heap.size < w2.heap.size := HQ.out.lt
      have hql : w.heap.size < w2.heap.size := HC2.out.a.lt
      have hqf : w.heap.size + 1 < w2.heap.size := HC2.out.f.lt
      obtain ⟨a0, a1, f0, f1⟩ := HC2.out.a.cells
      obtain ⟨y0, y1, y2, _, _, _⟩ := HQ.out.cells
      obtain ⟨g0, g1, g2, i0, i1, i2⟩ := HC2.out.f.cells
      by_cases h4 : rk = 4
      · have hk4 : ((rk : Int) == 4) = true := by rw [h4]; rfl
        have HRR : Hid (R = .inr (rk, rn, rs)) := by rw [HST.out, if_pos h4]; exact rfl
        clear h4
        go_wp2_with fail
        obtain ⟨k1, k2, k3⟩ := HC2.out.fail rk rn rs
        have K1 := Lib.hid k1
        have K2 := Lib.hid k2
        have K3 := Lib.hid k3
        clear k1 k2 k3
        go_region
        clear a0 a1 f0 f1 y0 y1 y2 g0 g1 g2 i0 i1 i2
        generalize (((((w2.setCell ⟨w.heap.size, 0, none⟩ (.slice none 0 0)).setCell ⟨w.heap.size, 1, none⟩ (.slice none 0 0)).setCell ⟨w.heap.size + 1, 0, none⟩ (.int .u8 (rk : Int))).setCell ⟨w.heap.size + 1, 1, none⟩ (.int .i64 rn)).setCell ⟨w.heap.size + 1, 2, none⟩ (.string rs)) = w4 at *
        have k1 : A2 w4.drew w.heap.size (.slice none 0 0) (.slice none 0 0) := K1.out
        have k2 : B3 w4.drew (w.heap.size + 1) rk rn rs := K2.out
        have k3 := Lib.hid (show Below w.heap.size w w4.drew from K3.out.drew)
        generalize w4.drew = w6 at *
        obtain ⟨a0, a1, _, _⟩ := k1.cells
        obtain ⟨y0, y1, y2, _, _, _⟩ := k2.cells
        go_wp2_with fail
        refine bodyPost_ret (v := .tuple #[.agg #[.slice none 0 0, .slice none 0 0], .agg #[.int .u8 (rk : Int), .int .i64 rn, .string rs], .bool false]) (by simp [results, Tryz.results79, go_sem, a0, a1, y0, y1, y2]) rfl ⟨by rw [HRR.out]; exact rfl, k3.out⟩
      · have hk4 : ((rk : Int) == 4) = false := by simp; omega
        rw [if_neg h4, if_pos trivial] at HST
        have HST2 := Lib.hid HST.out.symm
        obtain ⟨ua, uc, rfl, _⟩ := OwnOf.isOf zaq HC2.out.t
        have hTl : T.length ≤ 20 := by have := HLN.out.1; omega
        clear h4 HST
        go_wp2_with (at_builtin; go_loud (refine zdt rfl (.tmp 34) (.tmp 37) 80 rfl Tryz.underlying80 _ 16 zv3 yfj (by decide) (by decide) zaq zlp (w.heap.size + 2) _ T rfl (OwnOf.alloc HC2.out.t _) _ 1 1 [rs] rfl (zcr _ _ _ _ rfl) (by omega) (by simp; omega) ?_; intro v5 w5 ho5 hg5 hr5; have hm5 := (HC2.out.later (zaa w2 (.cells #[.string rs] 9))).midT hg5; obtain ⟨b0, b1, j0, j1⟩ := hm5.cells; have hm5l := hm5.lt; have hc5 := (HC2.out.later (zaa w2 (.cells #[.string rs] 9))).putT ho5 hg5; obtain ⟨ub, ud, hve, _⟩ := OwnOf.isOf zaq ho5; simp only [List.length_append, List.length_cons, List.length_nil, Nat.zero_add] at hve; subst hve; have HC5 := Lib.hid hc5; clear hc5 hg5 ho5 hr5))
        exact ⟨⟨k + 1, T ++ [rs], W, _, _, by omega, by go_num, HC5.out, HST2.out, by have := HLN.out; unfold Hid; simp; omega⟩, by simp [intOf]; omega⟩
    · have hcv : (ks[k].toNat : Int) = 110 := by rw [hkc]; rfl
      have HCK := Lib.hid (fun W hW => zow kd nm tx hvs hvi W hW)
      have hck : cvK ks[k] (kd, nm, tx) = cvR 1 kd nm tx := by unfold cvK; rw [hkc]; rfl
      rw [hck, hkc] at HST
      have HKN := Lib.hid hkc
      clear hck hkc
      have HRI := HVR.out HKN.out
      generalize cvR 1 kd nm tx = r at *
      obtain ⟨rk, rn, rs⟩ := r
      dsimp only at HCK HST HRI
      go_wp2_with fail
      generalize wr.alloc (.cells #[.int .u8 (kd : Int), .int .i64 nm, .string tx] 26) = wb at *
      refine (HCK.out _ HTx.out).mono ?_
      rintro e w1 ⟨rfl, hB1⟩
      have hX1 := HX.out.later hB1
      have HC1 := Lib.hid (HCx.out.later hB1)
      clear hB1 HX HCx HTx HCK
      obtain ⟨x0, x1, x2, z0, z1, z2⟩ := hX1.cells
      have hXl := hX1.lt
      obtain ⟨hq, hg⟩ := zae hX1 rk rn rs
      have HC2 := Lib.hid (HC1.out.other hg hq8 HLT.out.1 HLT.out.2)
      have HQ := Lib.hid hq
      clear hq hg hX1 HC1
      go_upto_region 8 with fail
      clear x0 x1 x2 z0 z1 z2
      generalize ((w1.setCell ⟨wr.heap.size, 0, none⟩ (.int .u8 (rk : Int))).setCell ⟨wr.heap.size, 1, none⟩ (.int .i64 rn)).setCell ⟨wr.heap.size, 2, none⟩ (.string rs) = w2 at *
      have hq8l : wr.heap.size < w2.heap.size := HQ.out.lt
      have hql : w.heap.size < w2.heap.size := HC2.out.a.lt
      have hqf : w.heap.size + 1 < w2.heap.size := HC2.out.f.lt
      obtain ⟨a0, a1, f0, f1⟩ := HC2.out.a.cells
      obtain ⟨y0, y1, y2, _, _, _⟩ := HQ.out.cells
      obtain ⟨g0, g1, g2, i0, i1, i2⟩ := HC2.out.f.cells
      by_cases h4 : rk = 4
      · have hk4 : ((rk : Int) == 4) = true := by rw [h4]; rfl
        have HRR : Hid (R = .inr (rk, rn, rs)) := by rw [HST.out, if_pos h4]; exact rfl
        clear h4
        go_wp2_with fail
        obtain ⟨k1, k2, k3⟩ := HC2.out.fail rk rn rs
        have K1 := Lib.hid k1
        have K2 := Lib.hid k2
        have K3 := Lib.hid k3
        clear k1 k2 k3
        go_region
        clear a0 a1 f0 f1 y0 y1 y2 g0 g1 g2 i0 i1 i2
        generalize (((((w2.setCell ⟨w.heap.size, 0, none⟩ (.slice none 0 0)).setCell ⟨w.heap.size, 1, none⟩ (.slice none 0 0)).setCell ⟨w.heap.size + 1, 0, none⟩ (.int .u8 (rk : Int))).setCell ⟨w.heap.size + 1, 1, none⟩ (.int .i64 rn)).setCell ⟨w.heap.size + 1, 2, none⟩ (.string rs)) = w4 at *
        have k1 : A2 w4.drew w.heap.size (.slice none 0 0) (.slice none 0 0) := K1.out
        have k2 : B3 w4.drew (w.heap.size + 1) rk rn rs := K2.out
        have k3 := Lib.hid (show Below w.heap.size w w4.drew from K3.out.drew)
        generalize w4.drew = w6 at *
        obtain ⟨a0, a1, _, _⟩ := k1.cells
        obtain ⟨y0, y1, y2, _, _, _⟩ := k2.cells
        go_wp2_with fail
        refine bodyPost_ret (v := .tuple #[.agg #[.slice none 0 0, .slice none 0 0], .agg #[.int .u8 (rk : Int), .int .i64 rn, .string rs], .bool false]) (by simp [results, Tryz.results79, go_sem, a0, a1, y0, y1, y2]) rfl ⟨by rw [HRR.out]; exact rfl, k3.out⟩
      · have hk4 : ((rk : Int) == 4) = false := by simp; omega
        rw [if_neg h4, if_neg (by decide)] at HST
        have HST2 := Lib.hid HST.out.symm
        obtain ⟨va, vc, rfl, _⟩ := OwnOf.isOf zap HC2.out.n
        have hWl : W.length ≤ 20 := by have := HLN.out.2; omega
        obtain ⟨tb1, tb2⟩ := zqn HRI
        have HTR := Lib.hid (fun W => zt5 rn HRI W)
        generalize zbv rn = tz at *
        have tb3 := yft tb1
        unfold InI at tb1 tb3
        have hwq : IntKind.i64.wrap (tz.tdiv 10000) = tz.tdiv 10000 := IntWalk.i64_in _ (by omega)
        clear h4 HST HRI HVR tb1 tb2 tb3
        go_wp2_with fail
        have hws : w.heap.size + 2 ≤ w2.heap.size := by omega
        go_region_law (first
         | (go_simp; refine (HTR.out _).mono ?_; rintro e w3 ⟨rfl, rfl⟩)
         | (refine zug rfl (.tmp 41) (.tmp 46) 71 rfl Tryz.underlying71 _ 8 zv4 ybo (by decide) (by decide) zap zhe (w.heap.size + 2) _ W rfl (OwnOf.alloc (w := w2.drew) HC2.out.n _) _ 1 1 [tz.tdiv 10000] rfl (by first | exact zcr _ _ _ _ rfl | exact zcr _ _ _ _ (by rw [hwq]; rfl)) (by omega) (by simp; omega) ?_
            intro v5 w5 ho5 hg5 hr5
            have hcd : Cv w w2.drew u (.slice va W.length vc) T W := HC2.out.later (Below.refl _ w2).drew
            have hm5 := (hcd.later (zaa w2.drew (.cells #[.int .i64 (tz.tdiv 10000)] 2))).midW hg5
            obtain ⟨b0, b1, j0, j1⟩ := hm5.cells
            have hm5l := hm5.lt
            have hc5 := (hcd.later (zaa w2.drew (.cells #[.int .i64 (tz.tdiv 10000)] 2))).putW ho5 hg5
            obtain ⟨vb, vd, hve, _⟩ := OwnOf.isOf zap ho5
            simp only [List.length_append, List.length_cons, List.length_nil, Nat.zero_add] at hve
            subst hve
            have HC5 := Lib.hid hc5
            clear hc5 hg5 ho5 hr5 hcd))
        all_goals
         go_wp2_with fail
         exact ⟨⟨k + 1, T, W ++ [tz.tdiv 10000], _, _, by omega, by go_num, HC5.out, HST2.out, by have := HLN.out; unfold Hid; simp; omega⟩, by simp [intOf]; omega⟩
  · obtain rfl : k = n := by omega
    have hend := zog (ks := ks.data.toList) (L := L) (k := k) (by rw [HNL.out]; exact Nat.le_refl _) T W
    rw [HRr.out] at hend
    have HRE := Lib.hid hend
    clear hend HRr
    obtain ⟨ua, uc, rfl, _⟩ := OwnOf.isOf zaq HCr.out.t
    obtain ⟨va, vc, rfl, _⟩ := OwnOf.isOf zap HCr.out.n
    have hWl : W.length ≤ 20 := by have := HLN.out.2; omega
    obtain ⟨a0, a1, f0, f1⟩ := HCr.out.a.cells
    have hql : w.heap.size < wr.heap.size := HCr.out.a.lt
    have hqf : w.heap.size + 1 < wr.heap.size := HCr.out.f.lt
    have hws : w.heap.size + 2 ≤ wr.heap.size := by omega
    go_upto_region 15 with (at_builtin; go_loud (refine zdt rfl (.tmp 51) (.tmp 52) 71 rfl Tryz.underlying71 _ 8 zv4 ybo (by decide) (by decide) zap zhe (w.heap.size + 2) _ W rfl (OwnOf.alloc HCr.out.n _) _ 1 1 [1] rfl (zcr _ _ _ _ rfl) (by omega) (by simp; omega) ?_; intro v5 w5 ho5 hg5 hr5; have hm5 := (HCr.out.later (zaa wr (.cells #[.int .i64 1] 2))).midW hg5; obtain ⟨b0, b1, j0, j1⟩ := hm5.cells; have hm5l := hm5.lt; have hc5 := (HCr.out.later (zaa wr (.cells #[.int .i64 1] 2))).putW ho5 hg5; obtain ⟨vb, vd, hve, _⟩ := OwnOf.isOf zap ho5; simp only [List.length_append, List.length_cons, List.length_nil, Nat.zero_add] at hve; subst hve; have HC5 := Lib.hid hc5; clear hc5 hg5 ho5 hr5))
    clear a0 a1 f0 f1 b0 b1 j0 j1
    generalize w5.setCell ⟨w.heap.size, 1, none⟩ (.slice vb (W.length + 1) vd) = w6 at *
    obtain ⟨a0, a1, f0, f1⟩ := HC5.out.a.cells
    obtain ⟨g0, g1, g2, i0, i1, i2⟩ := HC5.out.f.cells
    have hal := HC5.out.a.lt
    have hfl := HC5.out.f.lt
    have HD := Lib.hid HC5.out.done
    go_wp2_with fail
    generalize (((((w6.setCell ⟨w.heap.size, 0, none⟩ (.slice ua T.length uc)).setCell ⟨w.heap.size, 1, none⟩ (.slice vb (W.length + 1) vd)).setCell ⟨w.heap.size + 1, 0, none⟩ (.int .u8 0)).setCell ⟨w.heap.size + 1, 1, none⟩ (.int .i64 0)).setCell ⟨w.heap.size + 1, 2, none⟩ (.string ⟨#[]⟩)) = w7 at *
    obtain ⟨c0, c1, _, _⟩ := HD.out.a.cells
    obtain ⟨y0, y1, y2, _, _, _⟩ := HD.out.f.cells
    refine bodyPost_ret (v := .tuple #[.agg #[.slice ua T.length uc, .slice vb (W.length + 1) vd], .agg #[.int .u8 0, .int .i64 0, .string ⟨#[]⟩], .bool true]) (by simp [results, Tryz.results79, go_sem, c0, c1, y0, y1, y2]) rfl ⟨by rw [HRE.out]; exact ⟨_, _, rfl, HD.out.t, HD.out.n⟩, HD.out.b⟩
end Go.Proofs.YtdhahiodnmmkeaaGreatDoor.Va
