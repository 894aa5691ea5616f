/- Merged: CameV FuH RowCap GlyphML LawFtextCalls. -/
import Derived.Test.YtfjefanhkbcfgaaGreatDoorValA
import Derived.ChangeArms
import Derived.DataShut
import Derived.Test.YtfjefanhkbcfgaaGreatDoorFuG
import Derived.Test.YtfjefanhkbcfgaaGreatDoorRow
import Derived.Test.YtfjefanhkbcfgaaGreatDoorMgb
import Derived.Shelf.Vars
/- Values that came in. -/
namespace Go.Proofs.YtfjefanhkbcfgaaGreatDoor.Va
open Go Go.RowKit
/-- A value of a cell, of any kind. -/
structure VV where
  kd : Nat
  num : Int
  txt : ByteArray
  lo : leastI ≤ num
  hi : num ≤ 9223372036854775807
  ml : txt.size ≤ maxLen
  kb : kd < 256
def cells3 (v : VV) : List Value := [.int .u8 (v.kd : Int), .int .i64 v.num, .string v.txt]
theorem cells3_len (v : VV) : (cells3 v).length = 3 := rfl
section
variable {H : Type} {enc : TypeId × Value → H} {w : World} {base : Nat} {spare : Nat → Bool} {held : Bool} {fuel : Nat} {cs : List Value} {y : DataW H × List MemPlace}
theorem cl_u8 : Tryz.prog.cellsOf 5 = 1 := by kernel_rfl
theorem cl_i64 : Tryz.prog.cellsOf 2 = 1 := by kernel_rfl
theorem cl_str : Tryz.prog.cellsOf 9 = 1 := by kernel_rfl
set_option maxRecDepth 100000 in
theorem val_came (h : DataW.trod enc Tryz.prog w base spare held fuel 25 cs = some y) : ∃ r : VV, cs = cells3 r := by
  obtain ⟨xs, n, _, _, hl, hlen, hf⟩ := DataW.trod_struct Tryz.underlying25 h
  have hl' : cs.length = 3 := hl.trans (by kernel_rfl)
  match cs, hl' with
  | [c0, c1, c2], _ =>
    have hx : ∀ i, i < 3 → ∃ x, xs[i]? = some x := fun i hi => ⟨_, List.getElem?_eq_getElem (by rw [hlen]; exact hi)⟩
    obtain ⟨x0, e0⟩ := hx 0 (by decide)
    obtain ⟨x1, e1⟩ := hx 1 (by decide)
    obtain ⟨x2, e2⟩ := hx 2 (by decide)
    obtain ⟨u0, q0, g0⟩ := DataW.trod_int Tryz.underlying5 ((hf 0 _ rfl).trans e0)
    obtain ⟨u1, q1, g1⟩ := DataW.trod_int Tryz.underlying2 ((hf 1 _ rfl).trans e1)
    obtain ⟨s, q2, _, g2⟩ := DataW.trod_string Tryz.underlying9 ((hf 2 _ rfl).trans e2)
    simp [cl_u8, cl_i64, cl_str] at q0 q1 q2
    have w0 := g0.2
    have w1 := g1.2
    rw [Lit.wf_int_iff] at w0 w1
    simp [IntKind.min, IntKind.max, IntKind.signed, IntKind.bits] at w0 w1
    refine ⟨⟨u0.toNat, u1, s, by unfold leastI; omega, by omega, g2, by omega⟩, ?_⟩
    rw [q0, q1, q2]
    unfold cells3
    dsimp only
    rw [show ((u0.toNat : Nat) : Int) = u0 by omega]
end
end Go.Proofs.YtfjefanhkbcfgaaGreatDoor.Va
/- The reference's Call in full; the law's list of arguments. -/
namespace Go.Proofs.YtfjefanhkbcfgaaGreatDoor.Va
open Go Go.RowKit GM
set_option linter.unusedVariables false
set_option linter.unusedSimpArgs false
theorem ar_pat (fn : Nat) (h1 : 31 ≤ fn) (h2 : fn ≤ 42) : (arV fn).1 = (patV fn).2 ∧ (arV fn).2 = (patV fn).1.size := by
  obtain rfl | rfl | rfl | rfl | rfl | rfl | rfl | rfl | rfl | rfl | rfl | rfl := (by omega : fn = 31 ∨ fn = 32 ∨ fn = 33 ∨ fn = 34 ∨ fn = 35 ∨ fn = 36 ∨ fn = 37 ∨ fn = 38 ∨ fn = 39 ∨ fn = 40 ∨ fn = 41 ∨ fn = 42)
  all_goals exact ⟨rfl, rfl⟩
theorem rcall_any (fn : Nat) (a : Option Addr) (n cap : Nat) (L : List V3) (w : World) (hL : IsV w a n L) (hn : n ≤ 20) (hv : ∀ v ∈ L, v.2.2.size ≤ 2000 ∧ InI v.2.1) (hT : Tb w) :
    Calls Tryz.prog 20 #[.int .u8 (fn : Int), .slice a n cap] w fun e w' => e = .returned (.tuple #[vOf (callV fn L).1, .int .i64 (callV fn L).2]) ∧ Below w.heap.size w w' := by
  have hnl := hL.1
  by_cases hf : fn < 31 ∨ 42 < fn
  · have e : callV fn L = ((0, 0, ⟨#[]⟩), 10) := if_pos hf
    rw [e]
    exact rcall_name fn hf a n cap w
  obtain ⟨p1, p2⟩ := ar_pat fn (by omega) (by omega)
  by_cases hc : L.length < (patV fn).2 ∨ (patV fn).1.size < L.length
  · have e : callV fn L = ((0, 0, ⟨#[]⟩), 11) := by unfold callV; rw [if_neg hf, if_pos hc]
    rw [e]
    exact rcall_count fn (by omega) (by omega) a n cap hn (by rw [p1, p2, ← hnl]; omega) w
  by_cases hb : okL L = false
  · have e : callV fn L = ((0, 0, ⟨#[]⟩), 2) := by unfold callV; rw [if_neg hf, if_neg hc]; exact if_pos hb
    rw [e]
    exact rcall_arg fn (by omega) (by omega) a n cap L hn (by rw [p1, p2, ← hnl]; omega) w hL hv hb
  have e : callV fn L = (resV fn (convR (patV fn).1.data.toList L [] []), 0) := by unfold callV; rw [if_neg hf, if_neg hc]; exact if_neg hb
  rw [e]
  have hb' : okL L = true := by cases h : okL L <;> simp_all
  have h1 : (patV fn).2 ≤ n := by omega
  have h2 : n ≤ (patV fn).1.size := by omega
  obtain rfl | rfl | rfl | rfl | rfl | rfl | rfl | rfl | rfl | rfl | rfl | rfl := (by omega : fn = 31 ∨ fn = 32 ∨ fn = 33 ∨ fn = 34 ∨ fn = 35 ∨ fn = 36 ∨ fn = 37 ∨ fn = 38 ∨ fn = 39 ∨ fn = 40 ∨ fn = 41 ∨ fn = 42)
  · exact rcall_31 a n cap L w hL h1 h2 hv hb' hT
  · exact rcall_32 a n cap L w hL h1 h2 hv hb' hT
  · exact rcall_33 a n cap L w hL h1 h2 hv hb' hT
  · exact rcall_34 a n cap L w hL h1 h2 hv hb' hT
  · exact rcall_35 a n cap L w hL h1 h2 hv hb' hT
  · exact rcall_36 a n cap L w hL h1 h2 hv hb' hT
  · exact rcall_37 a n cap L w hL h1 h2 hv hb' hT
  · exact rcall_38 a n cap L w hL h1 h2 hv hb' hT
  · exact rcall_39 a n cap L w hL h1 h2 hv hb' hT
  · exact rcall_40 a n cap L w hL h1 h2 hv hb' hT
  · exact rcall_41 a n cap L w hL h1 h2 hv hb' hT
  · exact rcall_42 a n cap L w hL h1 h2 hv hb' hT
/-- The arguments of the law, cut short: kinds, numbers, texts. -/
def vsL (z : List VV) : List V3 := z.map (fun x => (x.kd, x.num, x.txt))
theorem isV_of {w : World} {a : Option Addr} {n : Nat} {z : List VV} (h : IsOf cells3 3 w a n z) : IsV w a n (vsL z) := by
  refine ⟨by unfold vsL; rw [List.length_map]; exact h.1, fun h0 => ?_⟩
  obtain ⟨b, off, ha, hr⟩ := h.2 h0
  refine ⟨b, off, ha, hr.1, fun i hi j u hu => ?_⟩
  unfold vsL at hi hu
  rw [List.length_map] at hi
  rw [List.getElem_map] at hu
  exact hr.2 i hi j u hu
theorem vsL_ok (z : List VV) : ∀ v ∈ vsL z, v.2.2.size ≤ maxLen ∧ InI v.2.1 := by
  intro v hv
  unfold vsL at hv
  obtain ⟨x, _, rfl⟩ := List.mem_map.1 hv
  refine ⟨x.ml, ?_⟩
  have := x.lo
  have := x.hi
  unfold leastI at *
  unfold InI
  dsimp only
  omega
end Go.Proofs.YtfjefanhkbcfgaaGreatDoor.Va
/- Slices of slices that came in. -/
namespace Go.Proofs.YtfjefanhkbcfgaaGreatDoor
open Go Go.RowKit Go.Deep
section
variable {α : Type} {c : α → List Value} {n : Nat} {P : Program} {H : Type} {enc : TypeId × Value → H} {w : World} {base : Nat} {held : Bool}
theorem came_cap {t e : TypeId} {fuel : Nat} {A : Option Addr} {len cap : Nat} {x : DataW H × List MemPlace} (ht : P.underlying t = some (.slice e))
    (h : DataW.trod enc P w base (fun _ => true) held fuel t [.slice A len cap] = some x) : len ≤ cap := by
  rcases open_slice ht h with ⟨hcs, _⟩ | ⟨ad, l, cp, m, k, D, Pl, hcs, _, hl, hm, hmm, hxd, hi⟩
  · simp at hcs
    omega
  · simp at hcs
    omega
theorem IsOf.cut {w : World} {A : Option Addr} {len k cap : Nat} {L : List α} (h : IsOf c n w A len L) (hk : k ≤ len) (hc : len ≤ cap) :
    IsOf c n w (if cap = k then A else A.map (·.add (k * n))) (len - k) (L.drop k) := by
  refine ⟨by rw [List.length_drop, h.1], fun hn => ?_⟩
  obtain ⟨b, off, rfl, hr⟩ := h.2 (by omega)
  rw [if_neg (by omega)]
  exact ⟨b, off + k * n, by simp [Addr.add], hr.drop k⟩
theorem RowOf.take {w : World} {b off : Nat} {L : List α} (h : RowOf c n w b off L) (k : Nat) : RowOf c n w b off (L.take k) :=
  ⟨h.1, fun i hi j u hu => by
    rw [List.getElem_take] at hu
    exact h.2 i (by rw [List.length_take] at hi; omega) j u hu⟩
theorem IsOf.take {w : World} {A : Option Addr} {len k : Nat} {L : List α} (h : IsOf c n w A len L) (hk : k ≤ len) : IsOf c n w A k (L.take k) := by
  refine ⟨by rw [List.length_take, h.1]; omega, fun hn => ?_⟩
  obtain ⟨b, off, rfl, hr⟩ := h.2 (by omega)
  exact ⟨b, off, rfl, hr.take k⟩
end
end Go.Proofs.YtfjefanhkbcfgaaGreatDoor
/- The library's bound on a needle holds some number in every world of the form. -/
namespace Go.Proofs.YtfjefanhkbcfgaaGreatDoor
theorem ml_of {w : World} (h : w.ShapedOpen Tryz.prog) : ML w := by
  obtain ⟨m, hm⟩ := cell_of_shapedOpen_int (P := Tryz.prog) (g := 2) (t := 3) (zero := #[.int .i64 0]) h (of_decide_eq_true (by kernel_rfl)) (by kernel_rfl) rfl (by kernel_rfl) (by kernel_rfl) Tryz.underlying3
  exact ⟨World.block_lt_of_cell? w _ hm, m, hm⟩
end Go.Proofs.YtfjefanhkbcfgaaGreatDoor
/- The walk of the law FtextCalls. -/
namespace Go.Proofs.YtfjefanhkbcfgaaGreatDoor.Va
open Go Go.RowKit GM
set_option linter.unusedVariables false
set_option linter.unusedSimpArgs false
set_option maxRecDepth 100000 in
set_option maxHeartbeats 12800000 in
theorem ftextCalls_any (fn : Nat) (a : Option Addr) (n cap : Nat) (L : List V3) (hc : n ≤ cap) (w : World) (hL : IsV w a n L) (hv : ∀ v ∈ L, v.2.2.size ≤ maxLen ∧ InI v.2.1) (hT : Tb w) (hM : ML w) :
    Calls Tryz.prog 5 #[.int .u8 (fn : Int), .slice a n cap] w fun e w' => e = .returned (.bool true) ∧ Below w.heap.size w w' := by
  have HT := Lib.hid hT
  have HFW := Lib.hid (fun W (hB : Below w.heap.size w W) => few_any a n cap L hc W (IsOf.later hL hB) (fun v h => (hv v h).1))
  have hML : ∀ v ∈ fewL L, v.2.2.size ≤ 2000 ∧ InI v.2.1 := fun v h => ⟨Nat.le_trans (fewL_sz h) (by decide), fewL_in (fun u hu => (hv u hu).2) h⟩
  have hMn : (fewL L).length ≤ 20 := by rw [fewL_len]; exact Nat.min_le_right _ _
  clear hL hv
  generalize fewL L = M at *
  have HPC := Lib.hid (fun a cap W (hB : Below w.heap.size w W) (h : IsV W a M.length M) => pcall_any fn a M.length cap M W h (fun v hv => ⟨Nat.le_trans (hML v hv).1 (by unfold maxLen; decide), (hML v hv).2⟩) (HT.out.later hB) (hM.later hB))
  have HRC := Lib.hid (fun a cap W (hB : Below w.heap.size w W) (h : IsV W a M.length M) => rcall_any fn a M.length cap M W h hMn hML (HT.out.later hB))
  have HEQ := Lib.hid (fun a a' cap cap' W (h1 : IsV W a M.length M) (h2 : IsV W a' M.length M) => eqV_any a a' M.length cap cap' M (by omega) W h1 h2)
  have HAW := Lib.hid (fun W (hB : Below w.heap.size w W) => awake14 W (HT.out.later hB))
  generalize callV fn M = res at *
  obtain ⟨⟨rk, rn, rs⟩, re⟩ := res
  unfold vOf at HPC HRC
  dsimp only at HPC HRC
  clear hML hT
  go_enter Tryz.func5, Tryz.ntmps5
  go_wp2_with fail
  refine (HFW.out _ (Below.refl _ _)).mono ?_
  rintro e w1 ⟨⟨v1, rfl, hO1⟩, hB1⟩
  obtain ⟨a1, c1, rfl, hI1⟩ := hO1.isOf cellsV_len
  have HB1 := Lib.hid hB1
  have HI1 := Lib.hid hI1
  clear hO1 hB1 hI1
  go_wp2_with fail
  refine (HPC.out _ _ _ HB1.out HI1.out).mono ?_
  rintro e w2 ⟨rfl, hB2⟩
  have HX2 := Lib.hid (B3.start w2 rk rn rs)
  have l2 := valloc w2 (.cells #[.int .u8 (rk : Int), .int .i64 rn, .string rs] 25)
  have HB2 := Lib.hid (vnext HB1.out (vnext hB2 l2))
  have HI2 := Lib.hid (HI1.out.later (vnext hB2 l2))
  clear hB2 l2 HB1 HI1
  go_upto_region 3 with fail
  generalize w2.alloc (.cells #[.int .u8 (rk : Int), .int .i64 rn, .string rs] 25) = w3 at *
  have hx2 := HX2.out.lt
  go_wp2_with fail
  refine (HFW.out _ HB2.out).mono ?_
  rintro e w4 ⟨⟨v4, rfl, hO4⟩, hB4⟩
  obtain ⟨a4, c4, rfl, hI4⟩ := hO4.isOf cellsV_len
  have HB4 := Lib.hid (vnext HB2.out hB4)
  have HI4 := Lib.hid hI4
  have HX4 := Lib.hid (HX2.out.later hB4)
  have HJ4 := Lib.hid (HI2.out.later hB4)
  clear hO4 hB4 hI4 HB2 HI2 HX2 hx2
  go_wp2_with fail
  refine (HRC.out _ _ _ HB4.out HI4.out).mono ?_
  rintro e w5 ⟨rfl, hB5⟩
  have HY5 := Lib.hid (B3.start w5 rk rn rs)
  have l5 := valloc w5 (.cells #[.int .u8 (rk : Int), .int .i64 rn, .string rs] 25)
  have HB5 := Lib.hid (vnext HB4.out (vnext hB5 l5))
  have HX5 := Lib.hid (HX4.out.later (vnext hB5 l5))
  have HI5 := Lib.hid (HJ4.out.later (vnext hB5 l5))
  clear hB5 l5 HB4 HI4 HX4 HJ4
  go_upto_region 4 with fail
  generalize w5.alloc (.cells #[.int .u8 (rk : Int), .int .i64 rn, .string rs] 25) = w6 at *
  obtain ⟨x0, x1, x2, _, _, _⟩ := HX5.out.cells
  obtain ⟨y0, y1, y2, _, _, _⟩ := HY5.out.cells
  have hx5 := HX5.out.lt
  have hy5 := HY5.out.lt
  go_wp2_with fail
  refine (HFW.out _ HB5.out).mono ?_
  rintro e w7 ⟨⟨v7, rfl, hO7⟩, hB7⟩
  obtain ⟨a7, c7, rfl, hI7⟩ := hO7.isOf cellsV_len
  have HB7 := Lib.hid (vnext HB5.out hB7)
  have HI7 := Lib.hid hI7
  have HJ7 := Lib.hid (HI5.out.later hB7)
  clear hO7 hB7 hI7 HB5 HI5 x0 x1 x2 y0 y1 y2 hx5 hy5
  go_wp2_with fail
  refine (HEQ.out _ _ _ _ _ HJ7.out HI7.out).mono ?_
  rintro e w8 ⟨rfl, hB8⟩
  have HB8 := Lib.hid (vnext HB7.out hB8)
  clear hB8
  go_wp2_with fail
  refine (HAW.out _ HB8.out).mono ?_
  rintro e w9 ⟨rfl, hB9⟩
  have HB9 := Lib.hid (vnext HB8.out hB9)
  clear hB9
  go_wp2_with fail
  go_ret
  exact ⟨rfl, HB9.out⟩
theorem ftextCalls_law (x : Int) (a : Option Addr) (n cap : Nat) (z : List VV) (w : World) (h : (Lit.int .u8 x).wf = true) (hL : IsOf cells3 3 w a n z) (hc : n ≤ cap) (hl : laidMetH Tryz.prog Rows.ftextCallsRow.laid w) (hM : ML w) :
    Calls Tryz.prog 5 #[.int .u8 x, .slice a n cap] w fun e w' => e = .returned (.bool true) ∧ Below w.heap.size w w' := by
  rw [Lit.wf_int_iff] at h
  simp [IntKind.min, IntKind.max, IntKind.signed, IntKind.bits] at h
  obtain ⟨k, rfl⟩ := Int.eq_ofNat_of_zero_le h.1
  exact ftextCalls_any k a n cap (vsL z) hc w (isV_of hL) (vsL_ok z) (tb_of (MakeChecks.laidMetH_plain _ _ _ (by kernel_rfl)) hl) hM
end Go.Proofs.YtfjefanhkbcfgaaGreatDoor.Va
