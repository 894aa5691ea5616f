/- Merged: LgE LgG. -/
import Derived.Test.YtdhahiodnmmkeaaGreatDoorLgD
/- flogic.Call in full, both sides. -/
namespace Go.Proofs.YtdhahiodnmmkeaaGreatDoor.Va
open Go Go.RowKit GM
set_option linter.unusedVariables false
set_option linter.unusedSimpArgs false
theorem c1_shape {k : Nat} {n : Int} {s : ByteArray} (hi : InI n) (h4 : (cvR 1 k n s).1 ≠ 4) : cvR 1 k n s = (1, (cvR 1 k n s).2.1, ⟨#[]⟩) ∧ -9223372036854775808 < (cvR 1 k n s).2.1 ∧ (cvR 1 k n s).2.1 ≤ 9223372036854775807 := by
  obtain ⟨h1, h2⟩ := cv1_ok k n s
  have hk := h2.resolve_right h4
  have hb := c1_ok (v := (k, n, s)) hi h4
  unfold c1V at hb
  dsimp only at hb
  rw [hk] at h1
  generalize cvR 1 k n s = r at *
  obtain ⟨rk, rn, rs⟩ := r
  dsimp only at *
  subst hk
  unfold vE vldV at h1
  simp at h1
  obtain ⟨_, h5⟩ := h1
  have e : rs = ⟨#[]⟩ := ba_ext (by simpa using h5)
  exact ⟨by rw [e], hb⟩
/-- What the conversion gives in the first place, and of which kind. -/
theorem lg_facts {fn : Nat} {L M : List V3} (hM : lgC fn 0 L [] = .inl M) (hv : ∀ v ∈ L, v.2.2.size ≤ 2000 ∧ InI v.2.1) : M.length = L.length ∧ (21 ≤ fn → fn ≤ 24 → ∀ v ∈ M, v.1 = 2) ∧ (fn = 30 → 0 < L.length → ∃ x, M.getD 0 blV = (1, x, ⟨#[]⟩) ∧ -9223372036854775808 < x ∧ x ≤ 9223372036854775807) := by
  obtain ⟨h1, h2⟩ := lgC_len L 0 [] M hM
  have h1' : M.length = L.length := by simpa using h1
  refine ⟨h1', fun a b v hm => ?_, fun e h0 => ?_⟩
  · obtain ⟨j, hj, rfl⟩ := List.getElem_of_mem hm
    obtain ⟨h3, h4⟩ := h2 j (by omega)
    simp only [List.length_nil, Nat.zero_add] at h3
    rw [List.getElem?_eq_getElem hj] at h3
    injection h3 with h3
    rw [Nat.zero_add] at h4
    rw [h3]
    unfold cvl at h4 ⊢
    rw [if_pos (.inl ⟨a, b⟩)] at h4 ⊢
    exact (cv2_ok _ _ _).2.resolve_right h4
  · obtain ⟨h3, h4⟩ := h2 0 h0
    subst e
    have hv0 := (hv L[0] (List.getElem_mem h0)).2
    rw [List.length_nil] at h3
    have e1 : cvl 30 (0 + 0) L[0] = cvR 1 L[0].1 L[0].2.1 L[0].2.2 := by unfold cvl; simp
    rw [e1] at h3 h4
    obtain ⟨h5, h6⟩ := c1_shape hv0 h4
    refine ⟨_, ?_, h6⟩
    rw [List.getD_eq_getElem?_getD, h3]
    exact h5
theorem pvalueL_any (fn : Nat) (hf : fn = 20 ∨ fn = 21 ∨ fn = 22 ∨ fn = 23 ∨ fn = 24 ∨ fn = 27 ∨ fn = 28 ∨ fn = 29 ∨ fn = 30) (L M : List V3) (hM : lgC fn 0 L [] = .inl M) (hv : ∀ v ∈ L, v.2.2.size ≤ 2000 ∧ InI v.2.1) (har : (arV fn).1 ≤ L.length ∧ L.length ≤ (arV fn).2) (w0 w : World) (hB : Below w0.heap.size w0 w) (a : Option Addr) (n cap : Nat) (hcp : n ≤ cap) (hL : IsV w a n M) (hT : Tb w) : Calls Tryz.prog 53 #[.int .u8 (fn : Int), .slice a n cap] w fun e w' => e = .returned (vOf (lgV fn M)) ∧ Below w.heap.size w w' := by
  obtain ⟨h1, h2, h3⟩ := lg_facts hM hv
  have hn : M.length = n := hL.1
  have h16 := arV_le fn
  have h1a := arV_one fn
  obtain rfl | rfl | rfl | rfl | rfl | rfl | rfl | rfl | rfl := hf
  · have ha : 2 ≤ L.length ∧ L.length ≤ 3 := har
    exact pv_20 a n cap M (by omega) (by omega) hcp w hL (by omega) (by omega)
  · exact pv_21 a n cap M (by omega) (by omega) hcp w hL
  · exact pv_22 a n cap M (by omega) (by omega) hcp w hL
  · exact pv_23 a n cap M (by omega) (by omega) hcp w hL
  · exact pv_24 a n cap M (by omega) (by omega) hcp w hL
  · exact pv_27 a n cap M (by omega) (by omega) hcp w hL
  · exact pv_28 a n cap M (by omega) (by omega) hcp w hL
  · exact pv_29 a n cap M (by omega) (by omega) hcp w hL
  · have ha : 2 ≤ L.length ∧ L.length ≤ 16 := har
    obtain ⟨x, hx, hx1, hx2⟩ := h3 rfl (by omega)
    exact pv_30 a n cap M (by omega) (by omega) hcp w hL (by omega) x hx1 hx2 hx hT
theorem lar_20 (w : World) : Calls Tryz.prog 48 #[.int .u8 20] w fun e w' => e = .returned (.tuple #[.int .i64 2, .int .i64 3]) ∧ Below w.heap.size w w' := by
  go_enter Tryz.func48, Tryz.ntmps48
  go_wp2_with fail
  refine bodyPost_ret (v := .tuple #[.int .i64 2, .int .i64 3]) (by simp [results, Tryz.results48, go_sem]) rfl ⟨rfl, Below.refl _ _⟩
theorem lar_21 (w : World) : Calls Tryz.prog 48 #[.int .u8 21] w fun e w' => e = .returned (.tuple #[.int .i64 1, .int .i64 16]) ∧ Below w.heap.size w w' := by
  go_enter Tryz.func48, Tryz.ntmps48
  go_wp2_with fail
  refine bodyPost_ret (v := .tuple #[.int .i64 1, .int .i64 16]) (by simp [results, Tryz.results48, go_sem]) rfl ⟨rfl, Below.refl _ _⟩
theorem lar_22 (w : World) : Calls Tryz.prog 48 #[.int .u8 22] w fun e w' => e = .returned (.tuple #[.int .i64 1, .int .i64 16]) ∧ Below w.heap.size w w' := by
  go_enter Tryz.func48, Tryz.ntmps48
  go_wp2_with fail
  refine bodyPost_ret (v := .tuple #[.int .i64 1, .int .i64 16]) (by simp [results, Tryz.results48, go_sem]) rfl ⟨rfl, Below.refl _ _⟩
theorem lar_23 (w : World) : Calls Tryz.prog 48 #[.int .u8 23] w fun e w' => e = .returned (.tuple #[.int .i64 1, .int .i64 16]) ∧ Below w.heap.size w w' := by
  go_enter Tryz.func48, Tryz.ntmps48
  go_wp2_with fail
  refine bodyPost_ret (v := .tuple #[.int .i64 1, .int .i64 16]) (by simp [results, Tryz.results48, go_sem]) rfl ⟨rfl, Below.refl _ _⟩
theorem lar_24 (w : World) : Calls Tryz.prog 48 #[.int .u8 24] w fun e w' => e = .returned (.tuple #[.int .i64 1, .int .i64 1]) ∧ Below w.heap.size w w' := by
  go_enter Tryz.func48, Tryz.ntmps48
  go_wp2_with fail
  refine bodyPost_ret (v := .tuple #[.int .i64 1, .int .i64 1]) (by simp [results, Tryz.results48, go_sem]) rfl ⟨rfl, Below.refl _ _⟩
theorem lar_25 (w : World) : Calls Tryz.prog 48 #[.int .u8 25] w fun e w' => e = .returned (.tuple #[.int .i64 2, .int .i64 2]) ∧ Below w.heap.size w w' := by
  go_enter Tryz.func48, Tryz.ntmps48
  go_wp2_with fail
  refine bodyPost_ret (v := .tuple #[.int .i64 2, .int .i64 2]) (by simp [results, Tryz.results48, go_sem]) rfl ⟨rfl, Below.refl _ _⟩
theorem lar_26 (w : World) : Calls Tryz.prog 48 #[.int .u8 26] w fun e w' => e = .returned (.tuple #[.int .i64 1, .int .i64 1]) ∧ Below w.heap.size w w' := by
  go_enter Tryz.func48, Tryz.ntmps48
  go_wp2_with fail
  refine bodyPost_ret (v := .tuple #[.int .i64 1, .int .i64 1]) (by simp [results, Tryz.results48, go_sem]) rfl ⟨rfl, Below.refl _ _⟩
theorem lar_27 (w : World) : Calls Tryz.prog 48 #[.int .u8 27] w fun e w' => e = .returned (.tuple #[.int .i64 1, .int .i64 1]) ∧ Below w.heap.size w w' := by
  go_enter Tryz.func48, Tryz.ntmps48
  go_wp2_with fail
  refine bodyPost_ret (v := .tuple #[.int .i64 1, .int .i64 1]) (by simp [results, Tryz.results48, go_sem]) rfl ⟨rfl, Below.refl _ _⟩
theorem lar_28 (w : World) : Calls Tryz.prog 48 #[.int .u8 28] w fun e w' => e = .returned (.tuple #[.int .i64 1, .int .i64 1]) ∧ Below w.heap.size w w' := by
  go_enter Tryz.func48, Tryz.ntmps48
  go_wp2_with fail
  refine bodyPost_ret (v := .tuple #[.int .i64 1, .int .i64 1]) (by simp [results, Tryz.results48, go_sem]) rfl ⟨rfl, Below.refl _ _⟩
theorem lar_29 (w : World) : Calls Tryz.prog 48 #[.int .u8 29] w fun e w' => e = .returned (.tuple #[.int .i64 1, .int .i64 1]) ∧ Below w.heap.size w w' := by
  go_enter Tryz.func48, Tryz.ntmps48
  go_wp2_with fail
  refine bodyPost_ret (v := .tuple #[.int .i64 1, .int .i64 1]) (by simp [results, Tryz.results48, go_sem]) rfl ⟨rfl, Below.refl _ _⟩
theorem lar_30 (w : World) : Calls Tryz.prog 48 #[.int .u8 30] w fun e w' => e = .returned (.tuple #[.int .i64 2, .int .i64 16]) ∧ Below w.heap.size w w' := by
  go_enter Tryz.func48, Tryz.ntmps48
  go_wp2_with fail
  refine bodyPost_ret (v := .tuple #[.int .i64 2, .int .i64 16]) (by simp [results, Tryz.results48, go_sem]) rfl ⟨rfl, Below.refl _ _⟩
theorem lar_any (fn : Nat) (h1 : 20 ≤ fn) (h2 : fn ≤ 30) (w : World) : Calls Tryz.prog 48 #[.int .u8 (fn : Int)] w fun e w' => e = .returned (.tuple #[.int .i64 ((arV fn).1 : Int), .int .i64 ((arV fn).2 : Int)]) ∧ Below w.heap.size w w' := by
  obtain rfl | rfl | rfl | rfl | rfl | rfl | rfl | rfl | rfl | rfl | rfl := (by omega : fn = 20 ∨ fn = 21 ∨ fn = 22 ∨ fn = 23 ∨ fn = 24 ∨ fn = 25 ∨ fn = 26 ∨ fn = 27 ∨ fn = 28 ∨ fn = 29 ∨ fn = 30)
  · exact lar_20 w
  · exact lar_21 w
  · exact lar_22 w
  · exact lar_23 w
  · exact lar_24 w
  · exact lar_25 w
  · exact lar_26 w
  · exact lar_27 w
  · exact lar_28 w
  · exact lar_29 w
  · exact lar_30 w
end Go.Proofs.YtdhahiodnmmkeaaGreatDoor.Va
/- flogic.Call in full (program). -/
namespace Go.Proofs.YtdhahiodnmmkeaaGreatDoor.Va
open Go Go.RowKit GM
set_option linter.unusedVariables false
set_option linter.unusedSimpArgs false
def ieV (L : List V3) : V3 := if (L.getD 0 blV).1 = 4 then L.getD 1 blV else L.getD 0 blV
def isErV (L : List V3) : V3 := trV (decide ((L.getD 0 blV).1 = 4))
def lgcR (fn : Nat) (R : List V3 ⊕ V3) : V3 := match R with | .inr x => x | .inl M => lgV fn M
theorem own_cap {B : Nat} {w : World} {a : Option Addr} {m cp : Nat} {M : List V3} (h : OwnV B w (.slice a m cp) M) : m ≤ cp := by
  rcases h.2 with ⟨h1, _⟩ | ⟨g, cap, cur, hv, _, _, hc, _⟩
  · injection h1 with h1 h2 h3; omega
  · injection hv with h1 h2 h3; omega
theorem callL_conv {fn : Nat} {L : List V3} (h1 : ¬ (fn < 20 ∨ 30 < fn)) (h2 : ¬ (L.length < (arV fn).1 ∨ (arV fn).2 < L.length)) (h3 : okL L = true) (h5 : fn ≠ 25) (h6 : fn ≠ 26) : callL fn L = (lgcR fn (lgC fn 0 L []), 0) := by
  unfold callL
  rw [if_neg h1, if_neg h2, if_neg (by rw [h3]; simp), if_neg h5, if_neg h6]
  cases lgC fn 0 L [] <;> rfl
set_option maxHeartbeats 3200000 in
theorem lcall_name (fn : Nat) (hf : fn < 20 ∨ 30 < fn) (a : Option Addr) (n cap : Nat) (w : World) :
    Calls Tryz.prog 22 #[.int .u8 (fn : Int), .slice a n cap] w fun e w' => e = .returned (.tuple #[vOf (blV), .int .i64 10]) ∧ Below w.heap.size w w' := by
  have HX : Hid (B3 (w.alloc (.cells #[.int .u8 0, .int .i64 0, .string ⟨#[]⟩] 26)) w.heap.size 0 0 ⟨#[]⟩) := B3.start w 0 0 ⟨#[]⟩
  have HB := Lib.hid (valloc w (.cells #[.int .u8 0, .int .i64 0, .string ⟨#[]⟩] 26))
  by_cases h1 : fn < 20
  · have d1 : decide ((fn : Int) < 20) = true := by simp; omega
    go_enter Tryz.func22, Tryz.ntmps22
    go_wp2_with fail
    refine bodyPost_ret (v := .tuple #[.agg #[.int .u8 0, .int .i64 0, .string ⟨#[]⟩], .int .i64 10]) (by simp [results, Tryz.results22, go_sem]) rfl ⟨rfl, HB.out⟩
  · have d1 : decide ((fn : Int) < 20) = false := by simp; omega
    have d2 : decide ((30 : Int) < (fn : Int)) = true := by simp; omega
    go_enter Tryz.func22, Tryz.ntmps22
    go_wp2_with fail
    refine bodyPost_ret (v := .tuple #[.agg #[.int .u8 0, .int .i64 0, .string ⟨#[]⟩], .int .i64 10]) (by simp [results, Tryz.results22, go_sem]) rfl ⟨rfl, HB.out⟩
set_option maxHeartbeats 3200000 in
theorem lcall_count (fn : Nat) (hf1 : 20 ≤ fn) (hf2 : fn ≤ 30) (a : Option Addr) (n cap : Nat) (hn : n ≤ 1000) (hc : n < (arV fn).1 ∨ (arV fn).2 < n) (w : World) :
    Calls Tryz.prog 22 #[.int .u8 (fn : Int), .slice a n cap] w fun e w' => e = .returned (.tuple #[vOf (blV), .int .i64 11]) ∧ Below w.heap.size w w' := by
  have HX : Hid (B3 (w.alloc (.cells #[.int .u8 0, .int .i64 0, .string ⟨#[]⟩] 26)) w.heap.size 0 0 ⟨#[]⟩) := B3.start w 0 0 ⟨#[]⟩
  have HB := Lib.hid (valloc w (.cells #[.int .u8 0, .int .i64 0, .string ⟨#[]⟩] 26))
  have d1 : decide ((fn : Int) < 20) = false := by simp; omega
  have d2 : decide ((30 : Int) < (fn : Int)) = false := by simp; omega
  have HAR := Lib.hid (fun W => lar_any fn hf1 hf2 W)
  have hm16 := arV_le fn
  generalize (arV fn).1 = p at *
  generalize (arV fn).2 = q at *
  by_cases h1 : n < p
  · have d3 : decide (n < p) = true := decide_eq_true h1
    have d3' : decide ((n : Int) < (p : Int)) = true := by simp; omega
    go_enter Tryz.func22, Tryz.ntmps22
    go_wp2_with fail
    generalize w.alloc (.cells #[.int .u8 0, .int .i64 0, .string ⟨#[]⟩] 26) = wa at *
    refine (HAR.out _).mono ?_
    rintro e w1 ⟨rfl, hB⟩
    replace HX := Lib.hid (HX.out.later hB)
    replace HB := Lib.hid (vnext HB.out hB)
    clear hB
    obtain ⟨x0, x1, x2, z0, z1, z2⟩ := HX.out.cells
    have hXl := HX.out.lt
    obtain ⟨hq, hg⟩ := b3_set HX.out 0 0 ⟨#[]⟩
    have hb5 := HB.out.grown hg HB.out.size (fun q hq => by injection hq with hq; omega)
    clear hg
    go_wp2_with fail
    generalize ((w1.setCell ⟨w.heap.size, 0, none⟩ (.int .u8 0)).setCell ⟨w.heap.size, 1, none⟩ (.int .i64 0)).setCell ⟨w.heap.size, 2, none⟩ (.string ⟨#[]⟩) = w5 at *
    obtain ⟨v0, v1, v2, _, _, _⟩ := hq.cells
    refine bodyPost_ret (v := .tuple #[.agg #[.int .u8 0, .int .i64 0, .string ⟨#[]⟩], .int .i64 11]) (by simp [results, Tryz.results22, go_sem, v0, v1, v2]) rfl ⟨rfl, hb5⟩
  · have d3 : decide (n < p) = false := decide_eq_false h1
    have d3' : decide ((n : Int) < (p : Int)) = false := by simp; omega
    have d4 : decide (q < n) = true := decide_eq_true (by omega)
    have d4' : decide ((q : Int) < (n : Int)) = true := by simp; omega
    go_enter Tryz.func22, Tryz.ntmps22
    go_wp2_with fail
    generalize w.alloc (.cells #[.int .u8 0, .int .i64 0, .string ⟨#[]⟩] 26) = wa at *
    refine (HAR.out _).mono ?_
    rintro e w1 ⟨rfl, hB⟩
    replace HX := Lib.hid (HX.out.later hB)
    replace HB := Lib.hid (vnext HB.out hB)
    clear hB
    obtain ⟨x0, x1, x2, z0, z1, z2⟩ := HX.out.cells
    have hXl := HX.out.lt
    obtain ⟨hq, hg⟩ := b3_set HX.out 0 0 ⟨#[]⟩
    have hb5 := HB.out.grown hg HB.out.size (fun q hq => by injection hq with hq; omega)
    clear hg
    go_wp2_with fail
    generalize ((w1.setCell ⟨w.heap.size, 0, none⟩ (.int .u8 0)).setCell ⟨w.heap.size, 1, none⟩ (.int .i64 0)).setCell ⟨w.heap.size, 2, none⟩ (.string ⟨#[]⟩) = w5 at *
    obtain ⟨v0, v1, v2, _, _, _⟩ := hq.cells
    refine bodyPost_ret (v := .tuple #[.agg #[.int .u8 0, .int .i64 0, .string ⟨#[]⟩], .int .i64 11]) (by simp [results, Tryz.results22, go_sem, v0, v1, v2]) rfl ⟨rfl, hb5⟩
set_option maxRecDepth 100000 in
set_option maxHeartbeats 6400000 in
theorem lcall_arg (fn : Nat) (hf1 : 20 ≤ fn) (hf2 : fn ≤ 30) (a : Option Addr) (n cap : Nat) (L : List V3) (w : World) (hL : IsV w a n L) (hn : n ≤ 1000) (hv : ∀ v ∈ L, v.2.2.size ≤ 2000 ∧ InI v.2.1) (hc : (arV fn).1 ≤ n ∧ n ≤ (arV fn).2) (hb : okL L = false) (w9 : w = w) :
    Calls Tryz.prog 22 #[.int .u8 (fn : Int), .slice a n cap] w fun e w' => e = .returned (.tuple #[vOf (blV), .int .i64 2]) ∧ Below w.heap.size w w' := by
  have HX : Hid (B3 (w.alloc (.cells #[.int .u8 0, .int .i64 0, .string ⟨#[]⟩] 26)) w.heap.size 0 0 ⟨#[]⟩) := B3.start w 0 0 ⟨#[]⟩
  have HB := Lib.hid (valloc w (.cells #[.int .u8 0, .int .i64 0, .string ⟨#[]⟩] 26))
  have HVC : Hid (∀ v ∈ L, ∀ W : World, Calls Tryz.prog 49 #[.agg #[.int .u8 (v.1 : Int), .int .i64 v.2.1, .string v.2.2]] W fun e w' => e = .returned (.int .i64 (vE v.1 v.2.1 v.2.2.data.toList)) ∧ Below W.heap.size W w') := fun v hvm W => vcheck_any v.1 v.2.1 v.2.2 (Nat.le_trans (hv v hvm).1 (by unfold maxLen; decide)) (by have := (hv v hvm).2; unfold InI at this; unfold leastI; omega) W
  have HL := Lib.hid hL
  have HNL := Lib.hid hL.1
  have d1 : decide ((fn : Int) < 20) = false := by simp; omega
  have d2 : decide ((30 : Int) < (fn : Int)) = false := by simp; omega
  have HAR := Lib.hid (fun W => lar_any fn hf1 hf2 W)
  have hm16 := arV_le fn
  have HBB := Lib.hid hb
  clear hL hv hb
  have d3 : decide (n < (arV fn).1) = false := decide_eq_false (by omega)
  have d3' : decide ((n : Int) < ((arV fn).1 : Int)) = false := by simp; omega
  have d4 : decide ((arV fn).2 < n) = false := decide_eq_false (by omega)
  have d4' : decide (((arV fn).2 : Int) < (n : Int)) = false := by simp; omega
  generalize (arV fn).1 = p at *
  generalize (arV fn).2 = q at *
  go_enter Tryz.func22, Tryz.ntmps22
  go_wp2_with fail
  generalize w.alloc (.cells #[.int .u8 0, .int .i64 0, .string ⟨#[]⟩] 26) = wa at *
  refine (HAR.out _).mono ?_
  rintro e w1 ⟨rfl, hB⟩
  replace HX := Lib.hid (HX.out.later hB)
  replace HB := Lib.hid (vnext HB.out hB)
  clear hB
  go_wp2_with fail
  go_loopw [38] (fun i wr => ∃ k : Nat, k ≤ n ∧ i = .int .i64 (k : Int) ∧ Hid (Below w.heap.size w wr) ∧ Hid (B3 wr w.heap.size 0 0 ⟨#[]⟩) ∧ Hid (okL (L.take k) = true)) (fun i _ => n - (intOf i).toNat)
  case atStart => exact ⟨0, Nat.zero_le _, rfl, HB.out, HX.out, rfl⟩
  case round =>
    clear HB HX
    obtain ⟨k, hk, rfl, HB, HX, HOK⟩ := hrel
    by_cases hlt : k < n
    · have hkl : k < L.length := by rw [HNL.out]; exact hlt
      have HVk := Lib.hid (HVC.out L[k] (List.getElem_mem hkl))
      obtain ⟨b, off, rfl, hbl, c1, c2, c3⟩ := isV_at (IsOf.later HL.out HB.out) hkl
      have hst := okL_step hkl HOK.out
      have HBAD := Lib.hid (fun h => okL_bad (L := L) (k := k) h)
      have hv02 : vE L[k].1 L[k].2.1 L[k].2.2.data.toList = 0 ∨ vE L[k].1 L[k].2.1 L[k].2.2.data.toList = 2 := by unfold vE; split <;> simp
      generalize L[k] = v at *
      have HST := Lib.hid hst
      have la := valloc wr (.cells #[.int .u8 (v.1 : Int), .int .i64 v.2.1, .string v.2.2] 26)
      have HY := Lib.hid (B3.start wr v.1 v.2.1 v.2.2)
      replace HB := Lib.hid (vnext HB.out la)
      replace HX := Lib.hid (HX.out.later la)
      clear hst la
      go_upto_region 9 with fail
      generalize wr.alloc (.cells #[.int .u8 (v.1 : Int), .int .i64 v.2.1, .string v.2.2] 26) = wb at *
      obtain ⟨y0, y1, y2, _, _, _⟩ := HY.out.cells
      have hyl := HY.out.lt
      go_wp2_with fail
      refine (HVk.out _).mono ?_
      rintro e w2 ⟨rfl, hB⟩
      replace HX := Lib.hid (HX.out.later hB)
      replace HB := Lib.hid (vnext HB.out hB)
      clear hB
      clear c1 c2 c3 hbl HVk y0 y1 y2 hyl HY
      rcases hv02 with h0 | h2
      · have HTN : Hid (okL (L.take (k + 1)) = true) := by unfold Hid; rw [HST.out, h0]; rfl
        rw [h0]
        clear h0
        go_wp2_with fail
        exact ⟨⟨k + 1, by omega, by go_num, HB.out, HX.out, HTN.out⟩, by simp [intOf]; omega⟩
      · have HTN : Hid (okL L = false) := HBAD.out (by rw [HST.out, h2]; rfl)
        rw [h2]
        clear h2
        obtain ⟨x0, x1, x2, z0, z1, z2⟩ := HX.out.cells
        have hXl := HX.out.lt
        obtain ⟨hq, hg⟩ := b3_set HX.out 0 0 ⟨#[]⟩
        have hb5 := HB.out.grown hg HB.out.size (fun q hq => by injection hq with hq; omega)
        clear hg
        go_wp2_with fail
        generalize ((w2.setCell ⟨w.heap.size, 0, none⟩ (.int .u8 0)).setCell ⟨w.heap.size, 1, none⟩ (.int .i64 0)).setCell ⟨w.heap.size, 2, none⟩ (.string ⟨#[]⟩) = w5 at *
        obtain ⟨v0, v1, v2, _, _, _⟩ := hq.cells
        refine bodyPost_ret (v := .tuple #[.agg #[.int .u8 0, .int .i64 0, .string ⟨#[]⟩], .int .i64 2]) (by simp [results, Tryz.results22, go_sem, v0, v1, v2]) rfl ⟨rfl, hb5⟩
    · have HTN : Hid (okL L = true) := by
        unfold Hid
        have := HOK.out
        rwa [List.take_of_length_le (by rw [HNL.out]; omega)] at this
      exfalso
      rw [HBB.out] at HTN
      exact absurd HTN.out (by simp)
set_option maxRecDepth 100000 in
set_option maxHeartbeats 6400000 in
theorem lcall_25 (a : Option Addr) (n cap : Nat) (L : List V3) (w : World) (hL : IsV w a n L) (hn : n = 2) (hv : ∀ v ∈ L, v.2.2.size ≤ 2000 ∧ InI v.2.1) (hb : okL L = true) :
    Calls Tryz.prog 22 #[.int .u8 25, .slice a n cap] w fun e w' => e = .returned (.tuple #[vOf (ieV L), .int .i64 0]) ∧ Below w.heap.size w w' := by
  have HX : Hid (B3 (w.alloc (.cells #[.int .u8 0, .int .i64 0, .string ⟨#[]⟩] 26)) w.heap.size 0 0 ⟨#[]⟩) := B3.start w 0 0 ⟨#[]⟩
  have HB := Lib.hid (valloc w (.cells #[.int .u8 0, .int .i64 0, .string ⟨#[]⟩] 26))
  have HVC : Hid (∀ v ∈ L, ∀ W : World, Calls Tryz.prog 49 #[.agg #[.int .u8 (v.1 : Int), .int .i64 v.2.1, .string v.2.2]] W fun e w' => e = .returned (.int .i64 (vE v.1 v.2.1 v.2.2.data.toList)) ∧ Below W.heap.size W w') := fun v hvm W => vcheck_any v.1 v.2.1 v.2.2 (Nat.le_trans (hv v hvm).1 (by unfold maxLen; decide)) (by have := (hv v hvm).2; unfold InI at this; unfold leastI; omega) W
  have HL := Lib.hid hL
  have HNL := Lib.hid hL.1
  have HAR := Lib.hid (fun W => lar_25 W)
  have HBB := Lib.hid hb
  clear hL hv hb
  subst hn
  go_enter Tryz.func22, Tryz.ntmps22
  go_wp2_with fail
  generalize w.alloc (.cells #[.int .u8 0, .int .i64 0, .string ⟨#[]⟩] 26) = wa at *
  refine (HAR.out _).mono ?_
  rintro e w1 ⟨rfl, hB⟩
  replace HX := Lib.hid (HX.out.later hB)
  replace HB := Lib.hid (vnext HB.out hB)
  clear hB
  go_wp2_with fail
  go_loopw [38] (fun i wr => ∃ k : Nat, k ≤ 2 ∧ i = .int .i64 (k : Int) ∧ Hid (Below w.heap.size w wr) ∧ Hid (B3 wr w.heap.size 0 0 ⟨#[]⟩) ∧ Hid (okL (L.take k) = true)) (fun i _ => 2 - (intOf i).toNat)
  case atStart => exact ⟨0, Nat.zero_le _, rfl, HB.out, HX.out, rfl⟩
  case round =>
    clear HB HX
    obtain ⟨k, hk, rfl, HB, HX, HOK⟩ := hrel
    by_cases hlt : k < 2
    · have hkl : k < L.length := by rw [HNL.out]; exact hlt
      have HVk := Lib.hid (HVC.out L[k] (List.getElem_mem hkl))
      obtain ⟨b, off, rfl, hbl, c1, c2, c3⟩ := isV_at (IsOf.later HL.out HB.out) hkl
      have hst := okL_step hkl HOK.out
      have HBAD := Lib.hid (fun h => okL_bad (L := L) (k := k) h)
      have hv02 : vE L[k].1 L[k].2.1 L[k].2.2.data.toList = 0 ∨ vE L[k].1 L[k].2.1 L[k].2.2.data.toList = 2 := by unfold vE; split <;> simp
      generalize L[k] = v at *
      have HST := Lib.hid hst
      have la := valloc wr (.cells #[.int .u8 (v.1 : Int), .int .i64 v.2.1, .string v.2.2] 26)
      have HY := Lib.hid (B3.start wr v.1 v.2.1 v.2.2)
      replace HB := Lib.hid (vnext HB.out la)
      replace HX := Lib.hid (HX.out.later la)
      clear hst la
      go_upto_region 9 with fail
      generalize wr.alloc (.cells #[.int .u8 (v.1 : Int), .int .i64 v.2.1, .string v.2.2] 26) = wb at *
      obtain ⟨y0, y1, y2, _, _, _⟩ := HY.out.cells
      have hyl := HY.out.lt
      go_wp2_with fail
      refine (HVk.out _).mono ?_
      rintro e w2 ⟨rfl, hB⟩
      replace HX := Lib.hid (HX.out.later hB)
      replace HB := Lib.hid (vnext HB.out hB)
      clear hB
      clear c1 c2 c3 hbl HVk y0 y1 y2 hyl HY
      rcases hv02 with h0 | h2
      · have HTN : Hid (okL (L.take (k + 1)) = true) := by unfold Hid; rw [HST.out, h0]; rfl
        rw [h0]
        clear h0
        go_wp2_with fail
        exact ⟨⟨k + 1, by omega, by go_num, HB.out, HX.out, HTN.out⟩, by simp [intOf]; omega⟩
      · have HTN : Hid (okL L = false) := HBAD.out (by rw [HST.out, h2]; rfl)
        rw [h2]
        clear h2
        exfalso
        have hx := HBB.out
        rw [HTN.out] at hx
        cases hx
    · have HTN : Hid (okL L = true) := by
        unfold Hid
        have := HOK.out
        rwa [List.take_of_length_le (by rw [HNL.out]; omega)] at this
      obtain ⟨b, off, rfl, hbl, c1, c2, c3⟩ := isV_at (IsOf.later HL.out HB.out) (k := 0) (by rw [HNL.out]; omega)
      rw [Nat.zero_mul, Nat.add_zero] at c1 c2 c3
      have hg0 := getD_at (M := L) (k := 0) (by rw [HNL.out]; omega)
      rw [← hg0] at c1 c2 c3
      clear hg0
      have HFA := Lib.hid (fun W => failed_any (L.getD 0 blV) W)
      go_wp2_with fail
      refine (HFA.out _).mono ?_
      rintro e w2 ⟨rfl, hB⟩
      replace HX := Lib.hid (HX.out.later hB)
      replace HB := Lib.hid (vnext HB.out hB)
      clear hB
      clear c1 c2 c3 hbl HFA
      by_cases h9 : (L.getD 0 blV).1 = 4
      · rw [decide_eq_true h9]
        have HE2 : Hid (ieV L = L.getD 1 blV) := if_pos h9
        obtain ⟨b_, off_, hbe, hbl2, c1, c2, c3⟩ := isV_at (IsOf.later HL.out HB.out) (k := 1) (by rw [HNL.out]; omega)
        cases hbe
        have hg1 := getD_at (M := L) (k := 1) (by rw [HNL.out]; omega)
        rw [← hg1] at c1 c2 c3
        clear hg1
        generalize L.getD 1 blV = u at *
        obtain ⟨uk, un, us⟩ := u
        dsimp only at c1 c2 c3
        clear h9
        obtain ⟨x0, x1, x2, z0, z1, z2⟩ := HX.out.cells
        have hXl := HX.out.lt
        obtain ⟨hq, hg⟩ := b3_set HX.out uk un us
        have hb5 := HB.out.grown hg HB.out.size (fun q hq => by injection hq with hq; omega)
        clear hg
        go_wp2_with fail
        generalize ((w2.setCell ⟨w.heap.size, 0, none⟩ (.int .u8 (uk : Int))).setCell ⟨w.heap.size, 1, none⟩ (.int .i64 un)).setCell ⟨w.heap.size, 2, none⟩ (.string us) = w5 at *
        obtain ⟨v0, v1, v2, _, _, _⟩ := hq.cells
        refine bodyPost_ret (v := .tuple #[.agg #[.int .u8 (uk : Int), .int .i64 un, .string us], .int .i64 0]) (by simp [results, Tryz.results22, go_sem, v0, v1, v2]) rfl ⟨by rw [HE2.out]; rfl, hb5⟩
      · rw [decide_eq_false h9]
        have HE2 : Hid (ieV L = L.getD 0 blV) := if_neg h9
        obtain ⟨b_, off_, hbe, hbl, c1, c2, c3⟩ := isV_at (IsOf.later HL.out HB.out) (k := 0) (by rw [HNL.out]; omega)
        cases hbe
        rw [Nat.zero_mul, Nat.add_zero] at c1 c2 c3
        have hg0 := getD_at (M := L) (k := 0) (by rw [HNL.out]; omega)
        rw [← hg0] at c1 c2 c3
        clear hg0
        generalize L.getD 0 blV = u at *
        obtain ⟨uk, un, us⟩ := u
        dsimp only at c1 c2 c3
        clear h9
        obtain ⟨x0, x1, x2, z0, z1, z2⟩ := HX.out.cells
        have hXl := HX.out.lt
        obtain ⟨hq, hg⟩ := b3_set HX.out uk un us
        have hb5 := HB.out.grown hg HB.out.size (fun q hq => by injection hq with hq; omega)
        clear hg
        go_wp2_with fail
        generalize ((w2.setCell ⟨w.heap.size, 0, none⟩ (.int .u8 (uk : Int))).setCell ⟨w.heap.size, 1, none⟩ (.int .i64 un)).setCell ⟨w.heap.size, 2, none⟩ (.string us) = w5 at *
        obtain ⟨v0, v1, v2, _, _, _⟩ := hq.cells
        refine bodyPost_ret (v := .tuple #[.agg #[.int .u8 (uk : Int), .int .i64 un, .string us], .int .i64 0]) (by simp [results, Tryz.results22, go_sem, v0, v1, v2]) rfl ⟨by rw [HE2.out]; rfl, hb5⟩
set_option maxRecDepth 100000 in
set_option maxHeartbeats 6400000 in
theorem lcall_26 (a : Option Addr) (n cap : Nat) (L : List V3) (w : World) (hL : IsV w a n L) (hn : n = 1) (hv : ∀ v ∈ L, v.2.2.size ≤ 2000 ∧ InI v.2.1) (hb : okL L = true) :
    Calls Tryz.prog 22 #[.int .u8 26, .slice a n cap] w fun e w' => e = .returned (.tuple #[vOf (isErV L), .int .i64 0]) ∧ Below w.heap.size w w' := by
  have HX : Hid (B3 (w.alloc (.cells #[.int .u8 0, .int .i64 0, .string ⟨#[]⟩] 26)) w.heap.size 0 0 ⟨#[]⟩) := B3.start w 0 0 ⟨#[]⟩
  have HB := Lib.hid (valloc w (.cells #[.int .u8 0, .int .i64 0, .string ⟨#[]⟩] 26))
  have HVC : Hid (∀ v ∈ L, ∀ W : World, Calls Tryz.prog 49 #[.agg #[.int .u8 (v.1 : Int), .int .i64 v.2.1, .string v.2.2]] W fun e w' => e = .returned (.int .i64 (vE v.1 v.2.1 v.2.2.data.toList)) ∧ Below W.heap.size W w') := fun v hvm W => vcheck_any v.1 v.2.1 v.2.2 (Nat.le_trans (hv v hvm).1 (by unfold maxLen; decide)) (by have := (hv v hvm).2; unfold InI at this; unfold leastI; omega) W
  have HL := Lib.hid hL
  have HNL := Lib.hid hL.1
  have HAR := Lib.hid (fun W => lar_26 W)
  have HBB := Lib.hid hb
  clear hL hv hb
  subst hn
  go_enter Tryz.func22, Tryz.ntmps22
  go_wp2_with fail
  generalize w.alloc (.cells #[.int .u8 0, .int .i64 0, .string ⟨#[]⟩] 26) = wa at *
  refine (HAR.out _).mono ?_
  rintro e w1 ⟨rfl, hB⟩
  replace HX := Lib.hid (HX.out.later hB)
  replace HB := Lib.hid (vnext HB.out hB)
  clear hB
  go_wp2_with fail
  go_loopw [38] (fun i wr => ∃ k : Nat, k ≤ 1 ∧ i = .int .i64 (k : Int) ∧ Hid (Below w.heap.size w wr) ∧ Hid (B3 wr w.heap.size 0 0 ⟨#[]⟩) ∧ Hid (okL (L.take k) = true)) (fun i _ => 1 - (intOf i).toNat)
  case atStart => exact ⟨0, Nat.zero_le _, rfl, HB.out, HX.out, rfl⟩
  case round =>
    clear HB HX
    obtain ⟨k, hk, rfl, HB, HX, HOK⟩ := hrel
    by_cases hlt : k < 1
    · have hkl : k < L.length := by rw [HNL.out]; exact hlt
      have HVk := Lib.hid (HVC.out L[k] (List.getElem_mem hkl))
      obtain ⟨b, off, rfl, hbl, c1, c2, c3⟩ := isV_at (IsOf.later HL.out HB.out) hkl
      have hst := okL_step hkl HOK.out
      have HBAD := Lib.hid (fun h => okL_bad (L := L) (k := k) h)
      have hv02 : vE L[k].1 L[k].2.1 L[k].2.2.data.toList = 0 ∨ vE L[k].1 L[k].2.1 L[k].2.2.data.toList = 2 := by unfold vE; split <;> simp
      generalize L[k] = v at *
      have HST := Lib.hid hst
      have la := valloc wr (.cells #[.int .u8 (v.1 : Int), .int .i64 v.2.1, .string v.2.2] 26)
      have HY := Lib.hid (B3.start wr v.1 v.2.1 v.2.2)
      replace HB := Lib.hid (vnext HB.out la)
      replace HX := Lib.hid (HX.out.later la)
      clear hst la
      go_upto_region 9 with fail
      generalize wr.alloc (.cells #[.int .u8 (v.1 : Int), .int .i64 v.2.1, .string v.2.2] 26) = wb at *
      obtain ⟨y0, y1, y2, _, _, _⟩ := HY.out.cells
      have hyl := HY.out.lt
      go_wp2_with fail
      refine (HVk.out _).mono ?_
      rintro e w2 ⟨rfl, hB⟩
      replace HX := Lib.hid (HX.out.later hB)
      replace HB := Lib.hid (vnext HB.out hB)
      clear hB
      clear c1 c2 c3 hbl HVk y0 y1 y2 hyl HY
      rcases hv02 with h0 | h2
      · have HTN : Hid (okL (L.take (k + 1)) = true) := by unfold Hid; rw [HST.out, h0]; rfl
        rw [h0]
        clear h0
        go_wp2_with fail
        exact ⟨⟨k + 1, by omega, by go_num, HB.out, HX.out, HTN.out⟩, by simp [intOf]; omega⟩
      · have HTN : Hid (okL L = false) := HBAD.out (by rw [HST.out, h2]; rfl)
        rw [h2]
        clear h2
        exfalso
        have hx := HBB.out
        rw [HTN.out] at hx
        cases hx
    · have HTN : Hid (okL L = true) := by
        unfold Hid
        have := HOK.out
        rwa [List.take_of_length_le (by rw [HNL.out]; omega)] at this
      obtain ⟨b, off, rfl, hbl, c1, c2, c3⟩ := isV_at (IsOf.later HL.out HB.out) (k := 0) (by rw [HNL.out]; omega)
      rw [Nat.zero_mul, Nat.add_zero] at c1 c2 c3
      have hg0 := getD_at (M := L) (k := 0) (by rw [HNL.out]; omega)
      rw [← hg0] at c1 c2 c3
      clear hg0
      have HFA := Lib.hid (fun W => failed_any (L.getD 0 blV) W)
      obtain ⟨bb, hbb⟩ : ∃ bb, decide ((L.getD 0 blV).1 = 4) = bb := ⟨_, rfl⟩
      have HE : Hid (isErV L = trV bb) := by unfold Hid isErV; rw [hbb]
      rw [hbb] at HFA
      obtain ⟨z, hz⟩ : ∃ z, b2i bb = z := ⟨_, rfl⟩
      have HTR := Lib.hid (fun W => truth_any bb W)
      rw [hz] at HTR
      have HZ9 := Lib.hid hz
      clear hz hbb
      generalize L.getD 0 blV = v at *
      go_wp2_with fail
      refine (HFA.out _).mono ?_
      rintro e w2 ⟨rfl, hB⟩
      replace HX := Lib.hid (HX.out.later hB)
      replace HB := Lib.hid (vnext HB.out hB)
      clear hB
      clear c1 c2 c3 hbl HFA
      go_wp2_with fail
      refine (HTR.out _).mono ?_
      rintro e w3 ⟨rfl, hB⟩
      replace HX := Lib.hid (HX.out.later hB)
      replace HB := Lib.hid (vnext HB.out hB)
      clear hB
      obtain ⟨x0, x1, x2, z0, z1, z2⟩ := HX.out.cells
      have hXl := HX.out.lt
      obtain ⟨hq, hg⟩ := b3_set HX.out 2 z ⟨#[]⟩
      have hb5 := HB.out.grown hg HB.out.size (fun q hq => by injection hq with hq; omega)
      clear hg
      go_wp2_with fail
      generalize ((w3.setCell ⟨w.heap.size, 0, none⟩ (.int .u8 2)).setCell ⟨w.heap.size, 1, none⟩ (.int .i64 z)).setCell ⟨w.heap.size, 2, none⟩ (.string ⟨#[]⟩) = w5 at *
      obtain ⟨v0, v1, v2, _, _, _⟩ := hq.cells
      refine bodyPost_ret (v := .tuple #[.agg #[.int .u8 2, .int .i64 z, .string ⟨#[]⟩], .int .i64 0]) (by simp [results, Tryz.results22, go_sem, v0, v1, v2]) rfl ⟨by rw [HE.out]; unfold trV; rw [HZ9.out]; rfl, hb5⟩
set_option maxRecDepth 100000 in
set_option maxHeartbeats 6400000 in
theorem lcall_gen (fn : Nat) (hf : fn = 20 ∨ fn = 21 ∨ fn = 22 ∨ fn = 23 ∨ fn = 24 ∨ fn = 27 ∨ fn = 28 ∨ fn = 29 ∨ fn = 30) (a : Option Addr) (n cap : Nat) (L : List V3) (w : World) (hL : IsV w a n L) (hl : (arV fn).1 ≤ n) (hm : n ≤ (arV fn).2) (hv : ∀ v ∈ L, v.2.2.size ≤ 2000 ∧ InI v.2.1) (hb : okL L = true) (hT : Tb w) :
    Calls Tryz.prog 22 #[.int .u8 (fn : Int), .slice a n cap] w fun e w' => e = .returned (.tuple #[vOf (lgcR fn (lgC fn 0 L [])), .int .i64 0]) ∧ Below w.heap.size w w' := by
  have HX : Hid (B3 (w.alloc (.cells #[.int .u8 0, .int .i64 0, .string ⟨#[]⟩] 26)) w.heap.size 0 0 ⟨#[]⟩) := B3.start w 0 0 ⟨#[]⟩
  have HB := Lib.hid (valloc w (.cells #[.int .u8 0, .int .i64 0, .string ⟨#[]⟩] 26))
  have HVC : Hid (∀ v ∈ L, ∀ W : World, Calls Tryz.prog 49 #[.agg #[.int .u8 (v.1 : Int), .int .i64 v.2.1, .string v.2.2]] W fun e w' => e = .returned (.int .i64 (vE v.1 v.2.1 v.2.2.data.toList)) ∧ Below W.heap.size W w') := fun v hvm W => vcheck_any v.1 v.2.1 v.2.2 (Nat.le_trans (hv v hvm).1 (by unfold maxLen; decide)) (by have := (hv v hvm).2; unfold InI at this; unfold leastI; omega) W
  have HL := Lib.hid hL
  have HNL := Lib.hid hL.1
  have hf1 : 20 ≤ fn := by omega
  have hf2 : fn ≤ 30 := by omega
  have e25 : ((fn : Int) == 25) = false := by simp; omega
  have e26 : ((fn : Int) == 26) = false := by simp; omega
  have hm16 := arV_le fn
  have d1 : decide ((fn : Int) < 20) = false := by simp; omega
  have d2 : decide ((30 : Int) < (fn : Int)) = false := by simp; omega
  have HAR := Lib.hid (fun W => lar_any fn hf1 hf2 W)
  have HBB := Lib.hid hb
  have HT := Lib.hid hT
  have HCV := Lib.hid (fun W hW hT => pconvert_any fn hf a n cap L (by omega) W hW hv hT)
  have HVL := Lib.hid (fun M hM W (hB : Below w.heap.size w W) a' cap' hcp hI hT => pvalueL_any fn hf L M hM hv ⟨by rw [hL.1]; exact hl, by rw [hL.1]; exact hm⟩ w W hB a' L.length cap' hcp hI hT)
  have d3 : decide (n < (arV fn).1) = false := decide_eq_false (by omega)
  have d3' : decide ((n : Int) < ((arV fn).1 : Int)) = false := by simp; omega
  have d4 : decide ((arV fn).2 < n) = false := decide_eq_false (by omega)
  have d4' : decide (((arV fn).2 : Int) < (n : Int)) = false := by simp; omega
  have hn16 : n ≤ 16 := by omega
  clear hf hf1 hf2 hm16
  generalize (arV fn).1 = p at *
  generalize (arV fn).2 = q at *
  obtain ⟨R, hR⟩ : ∃ R, lgC fn 0 L [] = R := ⟨_, rfl⟩
  rw [hR] at HCV
  have HR := Lib.hid hR
  clear hL hv hb hT hR
  go_enter Tryz.func22, Tryz.ntmps22
  go_wp2_with fail
  generalize w.alloc (.cells #[.int .u8 0, .int .i64 0, .string ⟨#[]⟩] 26) = wa at *
  refine (HAR.out _).mono ?_
  rintro e w1 ⟨rfl, hB⟩
  replace HX := Lib.hid (HX.out.later hB)
  replace HB := Lib.hid (vnext HB.out hB)
  clear hB
  go_wp2_with fail
  go_loopw [38] (fun i wr => ∃ k : Nat, k ≤ n ∧ i = .int .i64 (k : Int) ∧ Hid (Below w.heap.size w wr) ∧ Hid (B3 wr w.heap.size 0 0 ⟨#[]⟩) ∧ Hid (okL (L.take k) = true)) (fun i _ => n - (intOf i).toNat)
  case atStart => exact ⟨0, Nat.zero_le _, rfl, HB.out, HX.out, rfl⟩
  case round =>
    clear HB HX
    obtain ⟨k, hk, rfl, HB, HX, HOK⟩ := hrel
    by_cases hlt : k < n
    · have hkl : k < L.length := by rw [HNL.out]; exact hlt
      have HVk := Lib.hid (HVC.out L[k] (List.getElem_mem hkl))
      obtain ⟨b, off, rfl, hbl, c1, c2, c3⟩ := isV_at (IsOf.later HL.out HB.out) hkl
      have hst := okL_step hkl HOK.out
      have HBAD := Lib.hid (fun h => okL_bad (L := L) (k := k) h)
      have hv02 : vE L[k].1 L[k].2.1 L[k].2.2.data.toList = 0 ∨ vE L[k].1 L[k].2.1 L[k].2.2.data.toList = 2 := by unfold vE; split <;> simp
      generalize L[k] = v at *
      have HST := Lib.hid hst
      have la := valloc wr (.cells #[.int .u8 (v.1 : Int), .int .i64 v.2.1, .string v.2.2] 26)
      have HY := Lib.hid (B3.start wr v.1 v.2.1 v.2.2)
      replace HB := Lib.hid (vnext HB.out la)
      replace HX := Lib.hid (HX.out.later la)
      clear hst la
      go_upto_region 9 with fail
      generalize wr.alloc (.cells #[.int .u8 (v.1 : Int), .int .i64 v.2.1, .string v.2.2] 26) = wb at *
      obtain ⟨y0, y1, y2, _, _, _⟩ := HY.out.cells
      have hyl := HY.out.lt
      go_wp2_with fail
      refine (HVk.out _).mono ?_
      rintro e w2 ⟨rfl, hB⟩
      replace HX := Lib.hid (HX.out.later hB)
      replace HB := Lib.hid (vnext HB.out hB)
      clear hB
      clear c1 c2 c3 hbl HVk y0 y1 y2 hyl HY
      rcases hv02 with h0 | h2
      · have HTN : Hid (okL (L.take (k + 1)) = true) := by unfold Hid; rw [HST.out, h0]; rfl
        rw [h0]
        clear h0
        go_wp2_with fail
        exact ⟨⟨k + 1, by omega, by go_num, HB.out, HX.out, HTN.out⟩, by simp [intOf]; omega⟩
      · have HTN : Hid (okL L = false) := HBAD.out (by rw [HST.out, h2]; rfl)
        rw [h2]
        clear h2
        exfalso
        have hx := HBB.out
        rw [HTN.out] at hx
        cases hx
    · have HTN : Hid (okL L = true) := by
        unfold Hid
        have := HOK.out
        rwa [List.take_of_length_le (by rw [HNL.out]; omega)] at this
      go_wp2_with fail
      refine (HCV.out _ (IsOf.later HL.out HB.out) (HT.out.later HB.out)).mono ?_
      rintro e w3 ⟨hRV, hB⟩
      replace HX := Lib.hid (HX.out.later hB)
      replace HB := Lib.hid (vnext HB.out hB)
      clear hB HCV HVC
      unfold LgP at hRV
      cases R with
      | inr x =>
        have HE : Hid (lgcR fn (lgC fn 0 L []) = x) := by unfold Hid; rw [HR.out]; rfl
        obtain ⟨xk, xn, xs⟩ := x
        dsimp only at hRV
        subst hRV
        have HY := Lib.hid (B3.start w3 xk xn xs)
        have l4 := valloc w3 (.cells #[.int .u8 (xk : Int), .int .i64 xn, .string xs] 26)
        replace HX := Lib.hid (HX.out.later l4)
        replace HB := Lib.hid (vnext HB.out l4)
        clear l4
        go_upto_region 20 with fail
        generalize w3.alloc (.cells #[.int .u8 (xk : Int), .int .i64 xn, .string xs] 26) = w4 at *
        obtain ⟨y0, y1, y2, _, _, _⟩ := HY.out.cells
        have hyl := HY.out.lt
        obtain ⟨x0, x1, x2, z0, z1, z2⟩ := HX.out.cells
        have hXl := HX.out.lt
        obtain ⟨hq, hg⟩ := b3_set HX.out xk xn xs
        have hb5 := HB.out.grown hg HB.out.size (fun q hq => by injection hq with hq; omega)
        clear hg
        go_wp2_with fail
        generalize ((w4.setCell ⟨w.heap.size, 0, none⟩ (.int .u8 (xk : Int))).setCell ⟨w.heap.size, 1, none⟩ (.int .i64 xn)).setCell ⟨w.heap.size, 2, none⟩ (.string xs) = w5 at *
        obtain ⟨v0, v1, v2, _, _, _⟩ := hq.cells
        refine bodyPost_ret (v := .tuple #[.agg #[.int .u8 (xk : Int), .int .i64 xn, .string xs], .int .i64 0]) (by simp [results, Tryz.results22, go_sem, v0, v1, v2]) rfl ⟨by rw [HE.out]; rfl, hb5⟩
      | inl M =>
        obtain ⟨v, rfl, hO⟩ := hRV
        obtain ⟨ua, uc, rfl, hI⟩ := OwnOf.isOf cellsV_len hO
        have hcp : M.length ≤ uc := own_cap hO
        have HE : Hid (lgcR fn (lgC fn 0 L []) = lgV fn M) := by unfold Hid; rw [HR.out]; rfl
        have hml : M.length = L.length := by have := (lgC_len L 0 [] M HR.out).1; simpa using this
        have l4 := valloc w3 (.cells #[.int .u8 0, .int .i64 0, .string ⟨#[]⟩] 26)
        have HI := Lib.hid (hI.later l4)
        replace HX := Lib.hid (HX.out.later l4)
        replace HB := Lib.hid (vnext HB.out l4)
        have HON := Lib.hid (fun W (hB : Below w.heap.size w W) hI => HVL.out M HR.out W hB ua uc (by rw [← hml]; exact hcp) hI (HT.out.later hB))
        obtain ⟨⟨vk, vn, vs⟩, hr⟩ : ∃ r, lgV fn M = r := ⟨_, rfl⟩
        rw [hr] at HE HON
        unfold vOf at HON
        dsimp only at HON
        rw [← hml] at HON
        clear l4 hI hO hr HVL hml hcp
        go_upto_region 20 with fail
        generalize w3.alloc (.cells #[.int .u8 0, .int .i64 0, .string ⟨#[]⟩] 26) = w4 at *
        go_wp2_with fail
        refine (HON.out _ HB.out HI.out).mono ?_
        rintro e w6 ⟨rfl, hB⟩
        replace HX := Lib.hid (HX.out.later hB)
        replace HB := Lib.hid (vnext HB.out hB)
        clear hB
        obtain ⟨x0, x1, x2, z0, z1, z2⟩ := HX.out.cells
        have hXl := HX.out.lt
        obtain ⟨hq, hg⟩ := b3_set HX.out vk vn vs
        have hb5 := HB.out.grown hg HB.out.size (fun q hq => by injection hq with hq; omega)
        clear hg
        go_wp2_with fail
        generalize ((w6.setCell ⟨w.heap.size, 0, none⟩ (.int .u8 (vk : Int))).setCell ⟨w.heap.size, 1, none⟩ (.int .i64 vn)).setCell ⟨w.heap.size, 2, none⟩ (.string vs) = w5 at *
        obtain ⟨v0, v1, v2, _, _, _⟩ := hq.cells
        refine bodyPost_ret (v := .tuple #[.agg #[.int .u8 (vk : Int), .int .i64 vn, .string vs], .int .i64 0]) (by simp [results, Tryz.results22, go_sem, v0, v1, v2]) rfl ⟨by rw [HE.out]; rfl, hb5⟩
end Go.Proofs.YtdhahiodnmmkeaaGreatDoor.Va
