/- Merged: ValD ValE ValF ValG ValH ValI. -/
import Derived.Test.YtdanbabamcdebaaGreatDoorValB
import Derived.Test.YtdanbabamcdebaaGreatDoorT1
/- The contracts of the methods that convert: truth, number, text. -/
namespace Go.Proofs.YtdanbabamcdebaaGreatDoor.Va
open Go Go.RowKit GM
def Cn (w : World) (p : Nat) (k : Nat) (n : Int) (s : ByteArray) : Prop := w.heap[p]? = some (.cells #[.int .u8 (k : Int), .int .i64 n, .string s] 98)
theorem Cn.lt {w : World} {p k : Nat} {n : Int} {s : ByteArray} (h : Cn w p k n s) : p < w.heap.size := (Array.getElem?_eq_some_iff.1 h).1
theorem Cn.later {w w' : World} {p k : Nat} {n : Int} {s : ByteArray} (h : Cn w p k n s) (hB : Below w.heap.size w w') : Cn w' p k n s := (hB.block p h.lt).trans h
theorem Cn.cells {w : World} {p k : Nat} {n : Int} {s : ByteArray} (h : Cn w p k n s) : w.cell? ⟨p, 0, none⟩ = some (.int .u8 (k : Int)) ∧ w.cell? ⟨p, 1, none⟩ = some (.int .i64 n) ∧ w.cell? ⟨p, 2, none⟩ = some (.string s) := by
  unfold Cn at h
  exact ⟨by simp [World.cell?, h], by simp [World.cell?, h], by simp [World.cell?, h]⟩
theorem cont_start (w : World) (k : Nat) (n : Int) (s : ByteArray) : Cn ((w.alloc (.cells #[.int .u8 (k : Int), .int .i64 n, .string s] 98)).alloc (.cells #[.int .u8 0, .int .i64 0, .string ⟨#[]⟩] 23)) w.heap.size k n s ∧ B3 ((w.alloc (.cells #[.int .u8 (k : Int), .int .i64 n, .string s] 98)).alloc (.cells #[.int .u8 0, .int .i64 0, .string ⟨#[]⟩] 23)) (w.heap.size + 1) 0 0 ⟨#[]⟩ ∧ Below w.heap.size w ((w.alloc (.cells #[.int .u8 (k : Int), .int .i64 n, .string s] 98)).alloc (.cells #[.int .u8 0, .int .i64 0, .string ⟨#[]⟩] 23)) := by
  refine ⟨?_, ?_, vnext (valloc _ _) (valloc _ _)⟩
  · exact ((valloc (w.alloc (.cells #[.int .u8 (k : Int), .int .i64 n, .string s] 98)) (.cells #[.int .u8 0, .int .i64 0, .string ⟨#[]⟩] 23)).block w.heap.size (by simp)).trans (World.alloc_heap_new _ _)
  · have := B3.start (w.alloc (.cells #[.int .u8 (k : Int), .int .i64 n, .string s] 98)) 0 0 ⟨#[]⟩
    rwa [World.size_alloc] at this
theorem ba_ne {a : ByteArray} {l : List UInt8} (h : a ≠ ⟨l.toArray⟩) : (a.toList == l) = false := by
  apply Bool.eq_false_iff.2
  intro e
  apply h
  have e := eq_of_beq e
  rw [ByteArray.toList_eq] at e
  exact ByteArray.ext (Array.toList_inj.1 (by simp [e]))
theorem tr_le (e p : Bool) (l : List UInt8) : (tr e p l).length ≤ l.length + (if p then 1 else 0) := by
  induction l generalizing e p with
  | nil => simp [tr]
  | cons c l ih =>
    have h1 : (tr true false l).length ≤ l.length := by simpa using ih true false
    have h2 : (tr e true l).length ≤ l.length + 1 := by simpa using ih e true
    clear ih
    unfold tr
    split
    · simp only [List.length_cons]; omega
    · cases e <;> cases p <;> simp <;> omega
theorem trim_le (l : List UInt8) : (trim l).length ≤ l.length := by
  have := tr_le false false l
  simpa [trim] using this
def trR (k : Nat) (n : Int) (s : ByteArray) : Nat × Int := if k = 3 then (if upS s = ⟨#[84, 82, 85, 69]⟩ then (2, 1) else if upS s = ⟨#[70, 65, 76, 83, 69]⟩ then (2, 0) else (4, 2)) else (2, if n = 0 then 0 else 1)
theorem truth_m_z (k : Nat) (n : Int) (s : ByteArray) (hk : k ≠ 3) (hn : n = 0) (w : World) : Calls Tryz.prog 104 #[.agg #[.int .u8 (k : Int), .int .i64 n, .string s]] w fun e w' => e = .returned (.agg #[.int .u8 ((trR k n s).1 : Int), .int .i64 (trR k n s).2, .string ⟨#[]⟩]) ∧ Below w.heap.size w w' := by
  have H : Hid (trR k n s = (2, 0)) := by unfold Hid trR; rw [if_neg hk]; simp [hn]
  have hk2 : ((k : Int) == 3) = false := by simp; omega
  have hn2 : (n == 0) = true := by simp [hn]
  generalize trR k n s = r at *
  clear hk hn
  have HS := Lib.hid (cont_start w k n s)
  go_enter Tryz.func104, Tryz.ntmps104
  go_wp2_with fail
  generalize (w.alloc (.cells #[.int .u8 (k : Int), .int .i64 n, .string s] 98)).alloc (.cells #[.int .u8 0, .int .i64 0, .string ⟨#[]⟩] 23) = wa at *
  obtain ⟨hC, hX0, hB0⟩ := HS.out
  have HC := Lib.hid hC
  have HX := Lib.hid hX0
  have HBB := Lib.hid hB0
  clear HS hC hX0 hB0
  refine (truth_any _ _).mono ?_
  rw [show (n != 0) = false by simpa using hn2, show b2i false = 0 from rfl]
  rintro e w1 ⟨rfl, hB⟩
  have hX : B3 w1 (w.heap.size + 1) 0 0 ⟨#[]⟩ := HX.out.later hB
  have HBW := Lib.hid (vnext HBB.out hB)
  clear hB
  obtain ⟨x0, x1, x2, z0, z1, z2⟩ := hX.cells
  have hXl := hX.lt
  have hq : B3 (((w1.setCell ⟨(w.heap.size + 1), 0, none⟩ (.int .u8 2)).setCell ⟨(w.heap.size + 1), 1, none⟩ (.int .i64 0)).setCell ⟨(w.heap.size + 1), 2, none⟩ (.string ⟨#[]⟩)) (w.heap.size + 1) 2 0 ⟨#[]⟩ ∧ w1.grownBy (((w1.setCell ⟨(w.heap.size + 1), 0, none⟩ (.int .u8 2)).setCell ⟨(w.heap.size + 1), 1, none⟩ (.int .i64 0)).setCell ⟨(w.heap.size + 1), 2, none⟩ (.string ⟨#[]⟩)) (some ((w.heap.size + 1))) := hX.set 2 0 ⟨#[]⟩
  have hb5 := HBW.out.grown hq.2 HBW.out.size (fun q hq => by injection hq with hq; omega)
  obtain ⟨hq, _⟩ := hq
  go_wp2_with fail
  generalize ((w1.setCell ⟨(w.heap.size + 1), 0, none⟩ (.int .u8 2)).setCell ⟨(w.heap.size + 1), 1, none⟩ (.int .i64 0)).setCell ⟨(w.heap.size + 1), 2, none⟩ (.string ⟨#[]⟩) = w5 at *
  obtain ⟨y0, y1, y2, _, _, _⟩ := hq.cells
  refine bodyPost_ret (v := .agg #[.int .u8 2, .int .i64 0, .string ⟨#[]⟩]) (by simp [results, Tryz.results104, go_sem, y0, y1, y2]) rfl ⟨by rw [H.out]; rfl, hb5⟩
theorem truth_m_o (k : Nat) (n : Int) (s : ByteArray) (hk : k ≠ 3) (hn : n ≠ 0) (w : World) : Calls Tryz.prog 104 #[.agg #[.int .u8 (k : Int), .int .i64 n, .string s]] w fun e w' => e = .returned (.agg #[.int .u8 ((trR k n s).1 : Int), .int .i64 (trR k n s).2, .string ⟨#[]⟩]) ∧ Below w.heap.size w w' := by
  have H : Hid (trR k n s = (2, 1)) := by unfold Hid trR; rw [if_neg hk]; simp [hn]
  have hk2 : ((k : Int) == 3) = false := by simp; omega
  have hn2 : (n == 0) = false := by simp [hn]
  generalize trR k n s = r at *
  clear hk hn
  have HS := Lib.hid (cont_start w k n s)
  go_enter Tryz.func104, Tryz.ntmps104
  go_wp2_with fail
  generalize (w.alloc (.cells #[.int .u8 (k : Int), .int .i64 n, .string s] 98)).alloc (.cells #[.int .u8 0, .int .i64 0, .string ⟨#[]⟩] 23) = wa at *
  obtain ⟨hC, hX0, hB0⟩ := HS.out
  have HC := Lib.hid hC
  have HX := Lib.hid hX0
  have HBB := Lib.hid hB0
  clear HS hC hX0 hB0
  refine (truth_any _ _).mono ?_
  rw [show (n != 0) = true by simpa using hn2, show b2i true = 1 from rfl]
  rintro e w1 ⟨rfl, hB⟩
  have hX : B3 w1 (w.heap.size + 1) 0 0 ⟨#[]⟩ := HX.out.later hB
  have HBW := Lib.hid (vnext HBB.out hB)
  clear hB
  obtain ⟨x0, x1, x2, z0, z1, z2⟩ := hX.cells
  have hXl := hX.lt
  have hq : B3 (((w1.setCell ⟨(w.heap.size + 1), 0, none⟩ (.int .u8 2)).setCell ⟨(w.heap.size + 1), 1, none⟩ (.int .i64 1)).setCell ⟨(w.heap.size + 1), 2, none⟩ (.string ⟨#[]⟩)) (w.heap.size + 1) 2 1 ⟨#[]⟩ ∧ w1.grownBy (((w1.setCell ⟨(w.heap.size + 1), 0, none⟩ (.int .u8 2)).setCell ⟨(w.heap.size + 1), 1, none⟩ (.int .i64 1)).setCell ⟨(w.heap.size + 1), 2, none⟩ (.string ⟨#[]⟩)) (some ((w.heap.size + 1))) := hX.set 2 1 ⟨#[]⟩
  have hb5 := HBW.out.grown hq.2 HBW.out.size (fun q hq => by injection hq with hq; omega)
  obtain ⟨hq, _⟩ := hq
  go_wp2_with fail
  generalize ((w1.setCell ⟨(w.heap.size + 1), 0, none⟩ (.int .u8 2)).setCell ⟨(w.heap.size + 1), 1, none⟩ (.int .i64 1)).setCell ⟨(w.heap.size + 1), 2, none⟩ (.string ⟨#[]⟩) = w5 at *
  obtain ⟨y0, y1, y2, _, _, _⟩ := hq.cells
  refine bodyPost_ret (v := .agg #[.int .u8 2, .int .i64 1, .string ⟨#[]⟩]) (by simp [results, Tryz.results104, go_sem, y0, y1, y2]) rfl ⟨by rw [H.out]; rfl, hb5⟩
theorem truth_m_t (k : Nat) (n : Int) (s : ByteArray) (hs : s.size ≤ maxLen) (hk : k = 3) (hu : upS s = ⟨#[84, 82, 85, 69]⟩) (w : World) : Calls Tryz.prog 104 #[.agg #[.int .u8 (k : Int), .int .i64 n, .string s]] w fun e w' => e = .returned (.agg #[.int .u8 ((trR k n s).1 : Int), .int .i64 (trR k n s).2, .string ⟨#[]⟩]) ∧ Below w.heap.size w w' := by
  have H : Hid (trR k n s = (2, 1)) := by unfold Hid trR; rw [if_pos hk, if_pos hu]
  generalize trR k n s = r at *
  have hk2 : ((k : Int) == 3) = true := by subst hk; rfl
  clear hk
  have HS := Lib.hid (cont_start w k n s)
  go_enter Tryz.func104, Tryz.ntmps104
  go_wp2_with fail
  generalize (w.alloc (.cells #[.int .u8 (k : Int), .int .i64 n, .string s] 98)).alloc (.cells #[.int .u8 0, .int .i64 0, .string ⟨#[]⟩] 23) = wa at *
  obtain ⟨hC, hX0, hB0⟩ := HS.out
  have HC := Lib.hid hC
  have HX := Lib.hid hX0
  have HBB := Lib.hid hB0
  clear HS hC hX0 hB0
  refine (upper_any s hs _).mono ?_
  rw [hu]
  clear hu
  rintro e wu ⟨rfl, hB⟩
  replace HX := Lib.hid (HX.out.later hB)
  replace HBB := Lib.hid (vnext HBB.out hB)
  clear hB
  go_wp2_with fail
  refine (truth_any _ _).mono ?_
  rw [show b2i true = 1 from rfl]
  rintro e w1 ⟨rfl, hB⟩
  have hX : B3 w1 (w.heap.size + 1) 0 0 ⟨#[]⟩ := HX.out.later hB
  have HBW := Lib.hid (vnext HBB.out hB)
  clear hB
  obtain ⟨x0, x1, x2, z0, z1, z2⟩ := hX.cells
  have hXl := hX.lt
  have hq : B3 (((w1.setCell ⟨(w.heap.size + 1), 0, none⟩ (.int .u8 2)).setCell ⟨(w.heap.size + 1), 1, none⟩ (.int .i64 1)).setCell ⟨(w.heap.size + 1), 2, none⟩ (.string ⟨#[]⟩)) (w.heap.size + 1) 2 1 ⟨#[]⟩ ∧ w1.grownBy (((w1.setCell ⟨(w.heap.size + 1), 0, none⟩ (.int .u8 2)).setCell ⟨(w.heap.size + 1), 1, none⟩ (.int .i64 1)).setCell ⟨(w.heap.size + 1), 2, none⟩ (.string ⟨#[]⟩)) (some ((w.heap.size + 1))) := hX.set 2 1 ⟨#[]⟩
  have hb5 := HBW.out.grown hq.2 HBW.out.size (fun q hq => by injection hq with hq; omega)
  obtain ⟨hq, _⟩ := hq
  go_wp2_with fail
  generalize ((w1.setCell ⟨(w.heap.size + 1), 0, none⟩ (.int .u8 2)).setCell ⟨(w.heap.size + 1), 1, none⟩ (.int .i64 1)).setCell ⟨(w.heap.size + 1), 2, none⟩ (.string ⟨#[]⟩) = w5 at *
  obtain ⟨y0, y1, y2, _, _, _⟩ := hq.cells
  refine bodyPost_ret (v := .agg #[.int .u8 2, .int .i64 1, .string ⟨#[]⟩]) (by simp [results, Tryz.results104, go_sem, y0, y1, y2]) rfl ⟨by rw [H.out]; rfl, hb5⟩
theorem truth_m_f (k : Nat) (n : Int) (s : ByteArray) (hs : s.size ≤ maxLen) (hk : k = 3) (hu : upS s = ⟨#[70, 65, 76, 83, 69]⟩) (w : World) : Calls Tryz.prog 104 #[.agg #[.int .u8 (k : Int), .int .i64 n, .string s]] w fun e w' => e = .returned (.agg #[.int .u8 ((trR k n s).1 : Int), .int .i64 (trR k n s).2, .string ⟨#[]⟩]) ∧ Below w.heap.size w w' := by
  have H : Hid (trR k n s = (2, 0)) := by unfold Hid trR; rw [if_pos hk, if_neg (by rw [hu]; decide), if_pos hu]
  generalize trR k n s = r at *
  have hk2 : ((k : Int) == 3) = true := by subst hk; rfl
  clear hk
  have HS := Lib.hid (cont_start w k n s)
  go_enter Tryz.func104, Tryz.ntmps104
  go_wp2_with fail
  generalize (w.alloc (.cells #[.int .u8 (k : Int), .int .i64 n, .string s] 98)).alloc (.cells #[.int .u8 0, .int .i64 0, .string ⟨#[]⟩] 23) = wa at *
  obtain ⟨hC, hX0, hB0⟩ := HS.out
  have HC := Lib.hid hC
  have HX := Lib.hid hX0
  have HBB := Lib.hid hB0
  clear HS hC hX0 hB0
  refine (upper_any s hs _).mono ?_
  rw [hu]
  clear hu
  rintro e wu ⟨rfl, hB⟩
  replace HX := Lib.hid (HX.out.later hB)
  replace HBB := Lib.hid (vnext HBB.out hB)
  clear hB
  go_wp2_with fail
  refine (truth_any _ _).mono ?_
  rw [show b2i false = 0 from rfl]
  rintro e w1 ⟨rfl, hB⟩
  have hX : B3 w1 (w.heap.size + 1) 0 0 ⟨#[]⟩ := HX.out.later hB
  have HBW := Lib.hid (vnext HBB.out hB)
  clear hB
  obtain ⟨x0, x1, x2, z0, z1, z2⟩ := hX.cells
  have hXl := hX.lt
  have hq : B3 (((w1.setCell ⟨(w.heap.size + 1), 0, none⟩ (.int .u8 2)).setCell ⟨(w.heap.size + 1), 1, none⟩ (.int .i64 0)).setCell ⟨(w.heap.size + 1), 2, none⟩ (.string ⟨#[]⟩)) (w.heap.size + 1) 2 0 ⟨#[]⟩ ∧ w1.grownBy (((w1.setCell ⟨(w.heap.size + 1), 0, none⟩ (.int .u8 2)).setCell ⟨(w.heap.size + 1), 1, none⟩ (.int .i64 0)).setCell ⟨(w.heap.size + 1), 2, none⟩ (.string ⟨#[]⟩)) (some ((w.heap.size + 1))) := hX.set 2 0 ⟨#[]⟩
  have hb5 := HBW.out.grown hq.2 HBW.out.size (fun q hq => by injection hq with hq; omega)
  obtain ⟨hq, _⟩ := hq
  go_wp2_with fail
  generalize ((w1.setCell ⟨(w.heap.size + 1), 0, none⟩ (.int .u8 2)).setCell ⟨(w.heap.size + 1), 1, none⟩ (.int .i64 0)).setCell ⟨(w.heap.size + 1), 2, none⟩ (.string ⟨#[]⟩) = w5 at *
  obtain ⟨y0, y1, y2, _, _, _⟩ := hq.cells
  refine bodyPost_ret (v := .agg #[.int .u8 2, .int .i64 0, .string ⟨#[]⟩]) (by simp [results, Tryz.results104, go_sem, y0, y1, y2]) rfl ⟨by rw [H.out]; rfl, hb5⟩
theorem truth_m_e (k : Nat) (n : Int) (s : ByteArray) (hs : s.size ≤ maxLen) (hk : k = 3) (h1 : upS s ≠ ⟨#[84, 82, 85, 69]⟩) (h2 : upS s ≠ ⟨#[70, 65, 76, 83, 69]⟩) (w : World) : Calls Tryz.prog 104 #[.agg #[.int .u8 (k : Int), .int .i64 n, .string s]] w fun e w' => e = .returned (.agg #[.int .u8 ((trR k n s).1 : Int), .int .i64 (trR k n s).2, .string ⟨#[]⟩]) ∧ Below w.heap.size w w' := by
  have H : Hid (trR k n s = (4, 2)) := by unfold Hid trR; rw [if_pos hk, if_neg h1, if_neg h2]
  generalize trR k n s = r at *
  have hk2 : ((k : Int) == 3) = true := by subst hk; rfl
  clear hk
  have HS := Lib.hid (cont_start w k n s)
  go_enter Tryz.func104, Tryz.ntmps104
  go_wp2_with fail
  generalize (w.alloc (.cells #[.int .u8 (k : Int), .int .i64 n, .string s] 98)).alloc (.cells #[.int .u8 0, .int .i64 0, .string ⟨#[]⟩] 23) = wa at *
  obtain ⟨hC, hX0, hB0⟩ := HS.out
  have HC := Lib.hid hC
  have HX := Lib.hid hX0
  have HBB := Lib.hid hB0
  clear HS hC hX0 hB0
  refine (upper_any s hs _).mono ?_
  have g1 := ba_ne (l := [84, 82, 85, 69]) h1
  have g2 := ba_ne (l := [70, 65, 76, 83, 69]) h2
  clear h1 h2
  rintro e wu ⟨rfl, hB⟩
  replace HX := Lib.hid (HX.out.later hB)
  replace HBB := Lib.hid (vnext HBB.out hB)
  clear hB
  go_wp2_with fail
  refine (fail_any 2 _).mono ?_
  rw [show flN 2 = 2 from rfl]
  rintro e w1 ⟨rfl, hB⟩
  have hX : B3 w1 (w.heap.size + 1) 0 0 ⟨#[]⟩ := HX.out.later hB
  have HBW := Lib.hid (vnext HBB.out hB)
  clear hB
  obtain ⟨x0, x1, x2, z0, z1, z2⟩ := hX.cells
  have hXl := hX.lt
  have hq : B3 (((w1.setCell ⟨(w.heap.size + 1), 0, none⟩ (.int .u8 4)).setCell ⟨(w.heap.size + 1), 1, none⟩ (.int .i64 2)).setCell ⟨(w.heap.size + 1), 2, none⟩ (.string ⟨#[]⟩)) (w.heap.size + 1) 4 2 ⟨#[]⟩ ∧ w1.grownBy (((w1.setCell ⟨(w.heap.size + 1), 0, none⟩ (.int .u8 4)).setCell ⟨(w.heap.size + 1), 1, none⟩ (.int .i64 2)).setCell ⟨(w.heap.size + 1), 2, none⟩ (.string ⟨#[]⟩)) (some ((w.heap.size + 1))) := hX.set 4 2 ⟨#[]⟩
  have hb5 := HBW.out.grown hq.2 HBW.out.size (fun q hq => by injection hq with hq; omega)
  obtain ⟨hq, _⟩ := hq
  go_wp2_with fail
  generalize ((w1.setCell ⟨(w.heap.size + 1), 0, none⟩ (.int .u8 4)).setCell ⟨(w.heap.size + 1), 1, none⟩ (.int .i64 2)).setCell ⟨(w.heap.size + 1), 2, none⟩ (.string ⟨#[]⟩) = w5 at *
  obtain ⟨y0, y1, y2, _, _, _⟩ := hq.cells
  refine bodyPost_ret (v := .agg #[.int .u8 4, .int .i64 2, .string ⟨#[]⟩]) (by simp [results, Tryz.results104, go_sem, y0, y1, y2]) rfl ⟨by rw [H.out]; rfl, hb5⟩
theorem truth_m (k : Nat) (n : Int) (s : ByteArray) (hs : s.size ≤ maxLen) (w : World) : Calls Tryz.prog 104 #[.agg #[.int .u8 (k : Int), .int .i64 n, .string s]] w fun e w' => e = .returned (.agg #[.int .u8 ((trR k n s).1 : Int), .int .i64 (trR k n s).2, .string ⟨#[]⟩]) ∧ Below w.heap.size w w' := by
  by_cases hk : k = 3
  · by_cases hu : upS s = ⟨#[84, 82, 85, 69]⟩
    · exact truth_m_t k n s hs hk hu w
    · by_cases hf : upS s = ⟨#[70, 65, 76, 83, 69]⟩
      · exact truth_m_f k n s hs hk hf w
      · exact truth_m_e k n s hs hk hu hf w
  · by_cases hn : n = 0
    · exact truth_m_z k n s hk hn w
    · exact truth_m_o k n s hk hn w
def nbR (k : Nat) (n : Int) (s : ByteArray) : Nat × Int := if k = 3 then (if Tx.parE (trim s.data.toList) = 0 then (mkK (Tx.parV (trim s.data.toList)), mkN (Tx.parV (trim s.data.toList))) else if Tx.parE (trim s.data.toList) = 3 then (4, 3) else (4, 2)) else (mkK (n * 10000), mkN (n * 10000))
set_option maxHeartbeats 1600000 in
theorem number_m_n (k : Nat) (n : Int) (s : ByteArray) (hk : k ≠ 3) (h1 : -9223372036854775808 ≤ n * 10000) (h2 : n * 10000 ≤ 9223372036854775807) (w : World) : Calls Tryz.prog 102 #[.agg #[.int .u8 (k : Int), .int .i64 n, .string s]] w fun e w' => e = .returned (.agg #[.int .u8 ((nbR k n s).1 : Int), .int .i64 (nbR k n s).2, .string ⟨#[]⟩]) ∧ Below w.heap.size w w' := by
  have H : Hid (nbR k n s = (mkK (n * 10000), mkN (n * 10000))) := by unfold Hid nbR; rw [if_neg hk]
  have hk2 : ((k : Int) == 3) = false := by simp; omega
  have hw : IntKind.i64.wrap (n * 10000) = n * 10000 := IntWalk.i64_in _ (by omega)
  generalize nbR k n s = r at *
  clear hk
  have HS := Lib.hid (cont_start w k n s)
  go_enter Tryz.func102, Tryz.ntmps102
  go_wp2_with fail
  generalize (w.alloc (.cells #[.int .u8 (k : Int), .int .i64 n, .string s] 98)).alloc (.cells #[.int .u8 0, .int .i64 0, .string ⟨#[]⟩] 23) = wa at *
  obtain ⟨hC, hX0, hB0⟩ := HS.out
  have HC := Lib.hid hC
  have HX := Lib.hid hX0
  have HBB := Lib.hid hB0
  clear HS hC hX0 hB0
  have HM := Lib.hid (make_any (n * 10000))
  generalize mkK (n * 10000) = kk at *
  generalize mkN (n * 10000) = nn at *
  refine (HM.out _).mono ?_
  rintro e w1 ⟨rfl, hB⟩
  have hX : B3 w1 (w.heap.size + 1) 0 0 ⟨#[]⟩ := HX.out.later hB
  have HBW := Lib.hid (vnext HBB.out hB)
  clear hB
  obtain ⟨x0, x1, x2, z0, z1, z2⟩ := hX.cells
  have hXl := hX.lt
  have hq : B3 (((w1.setCell ⟨(w.heap.size + 1), 0, none⟩ (.int .u8 (kk : Int))).setCell ⟨(w.heap.size + 1), 1, none⟩ (.int .i64 nn)).setCell ⟨(w.heap.size + 1), 2, none⟩ (.string ⟨#[]⟩)) (w.heap.size + 1) kk nn ⟨#[]⟩ ∧ w1.grownBy (((w1.setCell ⟨(w.heap.size + 1), 0, none⟩ (.int .u8 (kk : Int))).setCell ⟨(w.heap.size + 1), 1, none⟩ (.int .i64 nn)).setCell ⟨(w.heap.size + 1), 2, none⟩ (.string ⟨#[]⟩)) (some ((w.heap.size + 1))) := hX.set kk nn ⟨#[]⟩
  have hb5 := HBW.out.grown hq.2 HBW.out.size (fun q hq => by injection hq with hq; omega)
  obtain ⟨hq, _⟩ := hq
  go_wp2_with fail
  generalize ((w1.setCell ⟨(w.heap.size + 1), 0, none⟩ (.int .u8 (kk : Int))).setCell ⟨(w.heap.size + 1), 1, none⟩ (.int .i64 nn)).setCell ⟨(w.heap.size + 1), 2, none⟩ (.string ⟨#[]⟩) = w5 at *
  obtain ⟨y0, y1, y2, _, _, _⟩ := hq.cells
  refine bodyPost_ret (v := .agg #[.int .u8 (kk : Int), .int .i64 nn, .string ⟨#[]⟩]) (by simp [results, Tryz.results102, go_sem, y0, y1, y2]) rfl ⟨by rw [H.out], hb5⟩
set_option maxHeartbeats 1600000 in
theorem number_m_p (k : Nat) (n : Int) (s : ByteArray) (hs : s.size ≤ 2000) (hk : k = 3) (he : Tx.parE (trim s.data.toList) = 0) (w : World) : Calls Tryz.prog 102 #[.agg #[.int .u8 (k : Int), .int .i64 n, .string s]] w fun e w' => e = .returned (.agg #[.int .u8 ((nbR k n s).1 : Int), .int .i64 (nbR k n s).2, .string ⟨#[]⟩]) ∧ Below w.heap.size w w' := by
  have HP : Hid (∀ W, _) := Lib.hid (Tx.parse_any (str (trim s.data.toList)) (by rw [str_size]; have := trim_le s.data.toList; have : s.data.toList.length = s.size := data_len s; omega))
  rw [str_data] at HP
  have H : Hid (nbR k n s = (mkK (Tx.parV (trim s.data.toList)), mkN (Tx.parV (trim s.data.toList)))) := by unfold Hid nbR; rw [if_pos hk, if_pos he]
  rw [he] at HP
  generalize nbR k n s = r at *
  have hk2 : ((k : Int) == 3) = true := by subst hk; rfl
  clear hk
  have HTR := Lib.hid (trim_any s (by omega))
  generalize Tx.parV (trim s.data.toList) = pv at *
  clear he
  have HS := Lib.hid (cont_start w k n s)
  go_enter Tryz.func102, Tryz.ntmps102
  go_wp2_with fail
  generalize (w.alloc (.cells #[.int .u8 (k : Int), .int .i64 n, .string s] 98)).alloc (.cells #[.int .u8 0, .int .i64 0, .string ⟨#[]⟩] 23) = wa at *
  obtain ⟨hC, hX0, hB0⟩ := HS.out
  have HC := Lib.hid hC
  have HX := Lib.hid hX0
  have HBB := Lib.hid hB0
  clear HS hC hX0 hB0
  refine (HTR.out _).mono ?_
  rintro e wu ⟨rfl, hB⟩
  replace HX := Lib.hid (HX.out.later hB)
  replace HBB := Lib.hid (vnext HBB.out hB)
  clear hB
  go_wp2_with fail
  refine (HP.out _).mono ?_
  rintro e wv ⟨rfl, hB⟩
  replace HX := Lib.hid (HX.out.later hB)
  replace HBB := Lib.hid (vnext HBB.out hB)
  clear hB
  go_wp2_with fail
  have HM := Lib.hid (make_any pv)
  generalize mkK pv = kk at *
  generalize mkN pv = nn at *
  refine (HM.out _).mono ?_
  rintro e w1 ⟨rfl, hB⟩
  have hX : B3 w1 (w.heap.size + 1) 0 0 ⟨#[]⟩ := HX.out.later hB
  have HBW := Lib.hid (vnext HBB.out hB)
  clear hB
  obtain ⟨x0, x1, x2, z0, z1, z2⟩ := hX.cells
  have hXl := hX.lt
  have hq : B3 (((w1.setCell ⟨(w.heap.size + 1), 0, none⟩ (.int .u8 (kk : Int))).setCell ⟨(w.heap.size + 1), 1, none⟩ (.int .i64 nn)).setCell ⟨(w.heap.size + 1), 2, none⟩ (.string ⟨#[]⟩)) (w.heap.size + 1) kk nn ⟨#[]⟩ ∧ w1.grownBy (((w1.setCell ⟨(w.heap.size + 1), 0, none⟩ (.int .u8 (kk : Int))).setCell ⟨(w.heap.size + 1), 1, none⟩ (.int .i64 nn)).setCell ⟨(w.heap.size + 1), 2, none⟩ (.string ⟨#[]⟩)) (some ((w.heap.size + 1))) := hX.set kk nn ⟨#[]⟩
  have hb5 := HBW.out.grown hq.2 HBW.out.size (fun q hq => by injection hq with hq; omega)
  obtain ⟨hq, _⟩ := hq
  go_wp2_with fail
  generalize ((w1.setCell ⟨(w.heap.size + 1), 0, none⟩ (.int .u8 (kk : Int))).setCell ⟨(w.heap.size + 1), 1, none⟩ (.int .i64 nn)).setCell ⟨(w.heap.size + 1), 2, none⟩ (.string ⟨#[]⟩) = w5 at *
  obtain ⟨y0, y1, y2, _, _, _⟩ := hq.cells
  refine bodyPost_ret (v := .agg #[.int .u8 (kk : Int), .int .i64 nn, .string ⟨#[]⟩]) (by simp [results, Tryz.results102, go_sem, y0, y1, y2]) rfl ⟨by rw [H.out], hb5⟩
set_option maxHeartbeats 1600000 in
theorem number_m_r (k : Nat) (n : Int) (s : ByteArray) (hs : s.size ≤ 2000) (hk : k = 3) (he : Tx.parE (trim s.data.toList) = 3) (w : World) : Calls Tryz.prog 102 #[.agg #[.int .u8 (k : Int), .int .i64 n, .string s]] w fun e w' => e = .returned (.agg #[.int .u8 ((nbR k n s).1 : Int), .int .i64 (nbR k n s).2, .string ⟨#[]⟩]) ∧ Below w.heap.size w w' := by
  have HP : Hid (∀ W, _) := Lib.hid (Tx.parse_any (str (trim s.data.toList)) (by rw [str_size]; have := trim_le s.data.toList; have : s.data.toList.length = s.size := data_len s; omega))
  rw [str_data] at HP
  have H : Hid (nbR k n s = (4, 3)) := by unfold Hid nbR; rw [if_pos hk, if_neg (by omega), if_pos he]
  rw [he] at HP
  generalize nbR k n s = r at *
  have hk2 : ((k : Int) == 3) = true := by subst hk; rfl
  clear hk
  have HTR := Lib.hid (trim_any s (by omega))
  generalize Tx.parV (trim s.data.toList) = pv at *
  clear he
  have HS := Lib.hid (cont_start w k n s)
  go_enter Tryz.func102, Tryz.ntmps102
  go_wp2_with fail
  generalize (w.alloc (.cells #[.int .u8 (k : Int), .int .i64 n, .string s] 98)).alloc (.cells #[.int .u8 0, .int .i64 0, .string ⟨#[]⟩] 23) = wa at *
  obtain ⟨hC, hX0, hB0⟩ := HS.out
  have HC := Lib.hid hC
  have HX := Lib.hid hX0
  have HBB := Lib.hid hB0
  clear HS hC hX0 hB0
  refine (HTR.out _).mono ?_
  rintro e wu ⟨rfl, hB⟩
  replace HX := Lib.hid (HX.out.later hB)
  replace HBB := Lib.hid (vnext HBB.out hB)
  clear hB
  go_wp2_with fail
  refine (HP.out _).mono ?_
  rintro e wv ⟨rfl, hB⟩
  replace HX := Lib.hid (HX.out.later hB)
  replace HBB := Lib.hid (vnext HBB.out hB)
  clear hB
  go_wp2_with fail
  refine (fail_any 3 _).mono ?_
  rw [show flN 3 = 3 from rfl]
  rintro e w1 ⟨rfl, hB⟩
  have hX : B3 w1 (w.heap.size + 1) 0 0 ⟨#[]⟩ := HX.out.later hB
  have HBW := Lib.hid (vnext HBB.out hB)
  clear hB
  obtain ⟨x0, x1, x2, z0, z1, z2⟩ := hX.cells
  have hXl := hX.lt
  have hq : B3 (((w1.setCell ⟨(w.heap.size + 1), 0, none⟩ (.int .u8 4)).setCell ⟨(w.heap.size + 1), 1, none⟩ (.int .i64 3)).setCell ⟨(w.heap.size + 1), 2, none⟩ (.string ⟨#[]⟩)) (w.heap.size + 1) 4 3 ⟨#[]⟩ ∧ w1.grownBy (((w1.setCell ⟨(w.heap.size + 1), 0, none⟩ (.int .u8 4)).setCell ⟨(w.heap.size + 1), 1, none⟩ (.int .i64 3)).setCell ⟨(w.heap.size + 1), 2, none⟩ (.string ⟨#[]⟩)) (some ((w.heap.size + 1))) := hX.set 4 3 ⟨#[]⟩
  have hb5 := HBW.out.grown hq.2 HBW.out.size (fun q hq => by injection hq with hq; omega)
  obtain ⟨hq, _⟩ := hq
  go_wp2_with fail
  generalize ((w1.setCell ⟨(w.heap.size + 1), 0, none⟩ (.int .u8 4)).setCell ⟨(w.heap.size + 1), 1, none⟩ (.int .i64 3)).setCell ⟨(w.heap.size + 1), 2, none⟩ (.string ⟨#[]⟩) = w5 at *
  obtain ⟨y0, y1, y2, _, _, _⟩ := hq.cells
  refine bodyPost_ret (v := .agg #[.int .u8 4, .int .i64 3, .string ⟨#[]⟩]) (by simp [results, Tryz.results102, go_sem, y0, y1, y2]) rfl ⟨by rw [H.out]; rfl, hb5⟩
set_option maxHeartbeats 1600000 in
theorem number_m_e (k : Nat) (n : Int) (s : ByteArray) (hs : s.size ≤ 2000) (hk : k = 3) (he : Tx.parE (trim s.data.toList) ≠ 0) (he3 : Tx.parE (trim s.data.toList) ≠ 3) (w : World) : Calls Tryz.prog 102 #[.agg #[.int .u8 (k : Int), .int .i64 n, .string s]] w fun e w' => e = .returned (.agg #[.int .u8 ((nbR k n s).1 : Int), .int .i64 (nbR k n s).2, .string ⟨#[]⟩]) ∧ Below w.heap.size w w' := by
  have HP : Hid (∀ W, _) := Lib.hid (Tx.parse_any (str (trim s.data.toList)) (by rw [str_size]; have := trim_le s.data.toList; have : s.data.toList.length = s.size := data_len s; omega))
  rw [str_data] at HP
  have H : Hid (nbR k n s = (4, 2)) := by unfold Hid nbR; rw [if_pos hk, if_neg he, if_neg he3]
  have q0 : (Tx.parE (trim s.data.toList) == 0) = false := by simpa using he
  have q3 : (Tx.parE (trim s.data.toList) == 3) = false := by simpa using he3
  generalize nbR k n s = r at *
  have hk2 : ((k : Int) == 3) = true := by subst hk; rfl
  clear hk
  have HTR := Lib.hid (trim_any s (by omega))
  generalize Tx.parV (trim s.data.toList) = pv at *
  clear he
  clear he3
  generalize Tx.parE (trim s.data.toList) = pe at *
  have HS := Lib.hid (cont_start w k n s)
  go_enter Tryz.func102, Tryz.ntmps102
  go_wp2_with fail
  generalize (w.alloc (.cells #[.int .u8 (k : Int), .int .i64 n, .string s] 98)).alloc (.cells #[.int .u8 0, .int .i64 0, .string ⟨#[]⟩] 23) = wa at *
  obtain ⟨hC, hX0, hB0⟩ := HS.out
  have HC := Lib.hid hC
  have HX := Lib.hid hX0
  have HBB := Lib.hid hB0
  clear HS hC hX0 hB0
  refine (HTR.out _).mono ?_
  rintro e wu ⟨rfl, hB⟩
  replace HX := Lib.hid (HX.out.later hB)
  replace HBB := Lib.hid (vnext HBB.out hB)
  clear hB
  go_wp2_with fail
  refine (HP.out _).mono ?_
  rintro e wv ⟨rfl, hB⟩
  replace HX := Lib.hid (HX.out.later hB)
  replace HBB := Lib.hid (vnext HBB.out hB)
  clear hB
  go_wp2_with fail
  refine (fail_any 2 _).mono ?_
  rw [show flN 2 = 2 from rfl]
  rintro e w1 ⟨rfl, hB⟩
  have hX : B3 w1 (w.heap.size + 1) 0 0 ⟨#[]⟩ := HX.out.later hB
  have HBW := Lib.hid (vnext HBB.out hB)
  clear hB
  obtain ⟨x0, x1, x2, z0, z1, z2⟩ := hX.cells
  have hXl := hX.lt
  have hq : B3 (((w1.setCell ⟨(w.heap.size + 1), 0, none⟩ (.int .u8 4)).setCell ⟨(w.heap.size + 1), 1, none⟩ (.int .i64 2)).setCell ⟨(w.heap.size + 1), 2, none⟩ (.string ⟨#[]⟩)) (w.heap.size + 1) 4 2 ⟨#[]⟩ ∧ w1.grownBy (((w1.setCell ⟨(w.heap.size + 1), 0, none⟩ (.int .u8 4)).setCell ⟨(w.heap.size + 1), 1, none⟩ (.int .i64 2)).setCell ⟨(w.heap.size + 1), 2, none⟩ (.string ⟨#[]⟩)) (some ((w.heap.size + 1))) := hX.set 4 2 ⟨#[]⟩
  have hb5 := HBW.out.grown hq.2 HBW.out.size (fun q hq => by injection hq with hq; omega)
  obtain ⟨hq, _⟩ := hq
  go_wp2_with fail
  generalize ((w1.setCell ⟨(w.heap.size + 1), 0, none⟩ (.int .u8 4)).setCell ⟨(w.heap.size + 1), 1, none⟩ (.int .i64 2)).setCell ⟨(w.heap.size + 1), 2, none⟩ (.string ⟨#[]⟩) = w5 at *
  obtain ⟨y0, y1, y2, _, _, _⟩ := hq.cells
  refine bodyPost_ret (v := .agg #[.int .u8 4, .int .i64 2, .string ⟨#[]⟩]) (by simp [results, Tryz.results102, go_sem, y0, y1, y2]) rfl ⟨by rw [H.out]; rfl, hb5⟩
theorem number_m (k : Nat) (n : Int) (s : ByteArray) (hs : s.size ≤ 2000) (h1 : k ≠ 3 → -9223372036854775808 ≤ n * 10000 ∧ n * 10000 ≤ 9223372036854775807) (w : World) : Calls Tryz.prog 102 #[.agg #[.int .u8 (k : Int), .int .i64 n, .string s]] w fun e w' => e = .returned (.agg #[.int .u8 ((nbR k n s).1 : Int), .int .i64 (nbR k n s).2, .string ⟨#[]⟩]) ∧ Below w.heap.size w w' := by
  by_cases hk : k = 3
  · by_cases he : Tx.parE (trim s.data.toList) = 0
    · exact number_m_p k n s hs hk he w
    · by_cases h3 : Tx.parE (trim s.data.toList) = 3
      · exact number_m_r k n s hs hk h3 w
      · exact number_m_e k n s hs hk he h3 w
  · exact number_m_n k n s hk (h1 hk).1 (h1 hk).2 w
end Go.Proofs.YtdanbabamcdebaaGreatDoor.Va
/- The contract of the method text. -/
namespace Go.Proofs.YtdanbabamcdebaaGreatDoor.Va
open Go Go.RowKit GM
attribute [local simp] DepA isB rsAt
def CnI (w : World) (p : Nat) (k : Int) (n : Int) (s : ByteArray) : Prop := w.heap[p]? = some (.cells #[.int .u8 k, .int .i64 n, .string s] 98)
theorem CnI.lt {w : World} {p : Nat} {k n : Int} {s : ByteArray} (h : CnI w p k n s) : p < w.heap.size := (Array.getElem?_eq_some_iff.1 h).1
theorem CnI.later {w w' : World} {p : Nat} {k n : Int} {s : ByteArray} (h : CnI w p k n s) (hB : Below w.heap.size w w') : CnI w' p k n s := (hB.block p h.lt).trans h
theorem CnI.cells {w : World} {p : Nat} {k n : Int} {s : ByteArray} (h : CnI w p k n s) : w.cell? ⟨p, 0, none⟩ = some (.int .u8 k) ∧ w.cell? ⟨p, 1, none⟩ = some (.int .i64 n) ∧ w.cell? ⟨p, 2, none⟩ = some (.string s) := by
  unfold CnI at h
  exact ⟨by simp [World.cell?, h], by simp [World.cell?, h], by simp [World.cell?, h]⟩
theorem conti_start (w : World) (k n : Int) (s : ByteArray) : CnI ((w.alloc (.cells #[.int .u8 k, .int .i64 n, .string s] 98)).alloc (.cells #[.int .u8 0, .int .i64 0, .string ⟨#[]⟩] 23)) w.heap.size k n s ∧ B3 ((w.alloc (.cells #[.int .u8 k, .int .i64 n, .string s] 98)).alloc (.cells #[.int .u8 0, .int .i64 0, .string ⟨#[]⟩] 23)) (w.heap.size + 1) 0 0 ⟨#[]⟩ ∧ Below w.heap.size w ((w.alloc (.cells #[.int .u8 k, .int .i64 n, .string s] 98)).alloc (.cells #[.int .u8 0, .int .i64 0, .string ⟨#[]⟩] 23)) := by
  refine ⟨?_, ?_, vnext (valloc _ _) (valloc _ _)⟩
  · exact ((valloc (w.alloc (.cells #[.int .u8 k, .int .i64 n, .string s] 98)) (.cells #[.int .u8 0, .int .i64 0, .string ⟨#[]⟩] 23)).block w.heap.size (by simp)).trans (World.alloc_heap_new _ _)
  · have := B3.start (w.alloc (.cells #[.int .u8 k, .int .i64 n, .string s] 98)) 0 0 ⟨#[]⟩
    rwa [World.size_alloc] at this
set_option maxRecDepth 100000 in
set_option maxHeartbeats 1600000 in
theorem text_m_n (n : Int) (w : World) (hn : InI n) (hT : Pow w) : Calls Tryz.prog 103 #[.agg #[.int .u8 1, .int .i64 n, .string ⟨#[]⟩]] w fun e w' => e = .returned (.agg #[.int .u8 3, .int .i64 0, .string ⟨(Tx.fmtL n).toArray⟩]) ∧ Below w.heap.size w w' := by
  have HS := Lib.hid (conti_start w 1 n ⟨#[]⟩)
  have HT := Lib.hid (fun (W : World) (hB : Below w.heap.size w W) => Tx.format_any n hn W (hT.later hB))
  generalize (⟨(Tx.fmtL n).toArray⟩ : ByteArray) = fs at *
  go_enter Tryz.func103, Tryz.ntmps103
  go_wp2_with fail
  generalize (w.alloc (.cells #[.int .u8 1, .int .i64 n, .string ⟨#[]⟩] 98)).alloc (.cells #[.int .u8 0, .int .i64 0, .string ⟨#[]⟩] 23) = wa at *
  obtain ⟨hC, hX0, hB0⟩ := HS.out
  obtain ⟨c0, c1, c2⟩ := hC.cells
  have HC := Lib.hid hC
  have HX := Lib.hid hX0
  have HBB := Lib.hid hB0
  clear HS hC hX0 hB0
  refine (HT.out _ HBB.out).mono ?_
  rintro e w1 ⟨rfl, hB⟩
  replace HX := Lib.hid (HX.out.later hB)
  replace HBB := Lib.hid (vnext HBB.out hB)
  clear hB
  have hX := HX.out
  obtain ⟨x0, x1, x2, z0, z1, z2⟩ := hX.cells
  have hXl := hX.lt
  have HBW := HBB
  go_wp2_with fail
  have hq : B3 (((w1.setCell ⟨(w.heap.size + 1), 0, none⟩ (.int .u8 3)).setCell ⟨(w.heap.size + 1), 1, none⟩ (.int .i64 0)).setCell ⟨(w.heap.size + 1), 2, none⟩ (.string fs)) (w.heap.size + 1) 3 0 fs ∧ w1.grownBy (((w1.setCell ⟨(w.heap.size + 1), 0, none⟩ (.int .u8 3)).setCell ⟨(w.heap.size + 1), 1, none⟩ (.int .i64 0)).setCell ⟨(w.heap.size + 1), 2, none⟩ (.string fs)) (some ((w.heap.size + 1))) := hX.set 3 0 fs
  have hb5 := HBW.out.grown hq.2 HBW.out.size (fun q hq => by injection hq with hq; omega)
  obtain ⟨hq, _⟩ := hq
  go_wp2_with fail
  generalize ((w1.setCell ⟨(w.heap.size + 1), 0, none⟩ (.int .u8 3)).setCell ⟨(w.heap.size + 1), 1, none⟩ (.int .i64 0)).setCell ⟨(w.heap.size + 1), 2, none⟩ (.string fs) = w5 at *
  obtain ⟨y0, y1, y2, _, _, _⟩ := hq.cells
  refine bodyPost_ret (v := .agg #[.int .u8 3, .int .i64 0, .string fs]) (by simp [results, Tryz.results103, go_sem, y0, y1, y2]) rfl ⟨rfl, hb5⟩
set_option maxRecDepth 100000 in
set_option maxHeartbeats 1600000 in
theorem text_m_b (w : World) : Calls Tryz.prog 103 #[.agg #[.int .u8 0, .int .i64 0, .string ⟨#[]⟩]] w fun e w' => e = .returned (.agg #[.int .u8 3, .int .i64 0, .string ⟨#[]⟩]) ∧ Below w.heap.size w w' := by
  have HS := Lib.hid (conti_start w 0 0 ⟨#[]⟩)
  go_enter Tryz.func103, Tryz.ntmps103
  go_wp2_with fail
  generalize (w.alloc (.cells #[.int .u8 0, .int .i64 0, .string ⟨#[]⟩] 98)).alloc (.cells #[.int .u8 0, .int .i64 0, .string ⟨#[]⟩] 23) = wa at *
  obtain ⟨hC, hX0, hB0⟩ := HS.out
  obtain ⟨c0, c1, c2⟩ := hC.cells
  have HC := Lib.hid hC
  have HX := Lib.hid hX0
  have HBB := Lib.hid hB0
  clear HS hC hX0 hB0
  refine wp_region_seqi (fun X => Below wa.heap.size wa X) (fun W W2 hB h => Below.next h hB) (by kernel_rfl) (by kernel_rfl) (by kernel_rfl) (Below.refl _ _).drew ?_
  simp only [putsL, Act.put, List.setIfInBounds_toArray, List.set_cons_zero, List.set_cons_succ, Nat.zero_add, Nat.reduceAdd]
  refine seqi_run ?_ (fun vs W hD => (by first | rfl | (simp at hD; simp [Region.wanted, yielded, hD]))) (fun vs W hS hD => ?_) ?_
  rotate_left
  · obtain _ := hS; (try simp at hD); (try simp only [hD]); (first | (go_simp; done) | (go_simp; rfl))
  simp only [List.nil_append]
  refine seqi_run ?_ (fun vs W hD => (by first | rfl | (simp at hD; simp [Region.wanted, yielded, hD]))) (fun vs W hS hD => ?_) ?_
  rotate_left
  · obtain ⟨c0, c1, c2⟩ := (HC.out.later hS).cells; obtain _ := hS; (try simp at hD); (try simp only [hD]); (first | (go_simp; done) | (go_simp; rfl))
  simp only [List.nil_append, List.cons_append]
  refine seqi_call (f := 119) (fun v _ => v = (.agg #[.int .u8 2, .int .i64 1, .string ⟨#[]⟩])) (stable_val _) (fun vs => #[.bool true]) (fun vs W hD => (by first | rfl | (simp at hD; simp [Region.wanted, yielded, hD]))) (fun vs W hS hD => ?_) (fun vs W hS hD => ?_) ?_
  · obtain _ := hS; (try simp at hD); (try simp only [hD]); go_simp; done
  · exact (truth_any true W).mono fun e W' ⟨he, hB⟩ => ⟨⟨_, he, rfl⟩, hB⟩
  simp only [List.nil_append, List.cons_append]
  refine seqi_run ?_ (fun vs W hD => (by first | rfl | (simp at hD; simp [Region.wanted, yielded, hD]))) (fun vs W hS hD => ?_) ?_
  rotate_left
  · obtain _ := hS; (try simp at hD); (try simp only [hD]); (first | (go_simp; done) | (go_simp; rfl))
  simp only [List.nil_append, List.cons_append]
  refine seqi_run ?_ (fun vs W hD => (by first | rfl | (simp at hD; simp [Region.wanted, yielded, hD]))) (fun vs W hS hD => ?_) ?_
  rotate_left
  · obtain _ := hS; (try simp at hD); (try simp only [hD]); (first | (go_simp; done) | (go_simp; rfl))
  simp only [List.nil_append, List.cons_append]
  refine seqi_end fun vs W0 hS hv => ?_
  simp only [AllF, Nat.zero_add, Nat.reduceAdd] at hv
  obtain ⟨h0, h1, h2, h3, h4, _⟩ := hv
  replace HC := Lib.hid (HC.out.later hS)
  replace HX := Lib.hid (HX.out.later hS)
  replace HBB := Lib.hid (vnext HBB.out hS)
  simp only [h0, h1, h2, h3, h4]
  clear h0 h1 h2 h3 h4 hS c0 c1 c2
  go_wp2_with fail
  refine wp_region_seqi (fun X => Below W0.heap.size W0 X) (fun W W2 hB h => Below.next h hB) (by kernel_rfl) (by kernel_rfl) (by kernel_rfl) (Below.refl _ _).drew ?_
  simp only [putsL, Act.put, List.setIfInBounds_toArray, List.set_cons_zero, List.set_cons_succ, Nat.zero_add, Nat.reduceAdd]
  refine seqi_run ?_ (fun vs W hD => (by first | rfl | (simp at hD; simp [Region.wanted, yielded, hD]))) (fun vs W hS hD => ?_) ?_
  rotate_left
  · obtain _ := hS; (try simp at hD); (try simp only [hD]); (first | (go_simp; done) | (go_simp; rfl))
  simp only [List.nil_append]
  refine seqi_run ?_ (fun vs W hD => (by first | rfl | (simp at hD; simp [Region.wanted, yielded, hD]))) (fun vs W hS hD => ?_) ?_
  rotate_left
  · obtain ⟨c0, c1, c2⟩ := (HC.out.later hS).cells; obtain _ := hS; (try simp at hD); (try simp only [hD]); (first | (go_simp; done) | (go_simp; rfl))
  simp only [List.nil_append, List.cons_append]
  refine seqi_call (f := 119) (fun v _ => v = (.agg #[.int .u8 2, .int .i64 0, .string ⟨#[]⟩])) (stable_val _) (fun vs => #[.bool false]) (fun vs W hD => (by first | rfl | (simp at hD; simp [Region.wanted, yielded, hD]))) (fun vs W hS hD => ?_) (fun vs W hS hD => ?_) ?_
  · obtain _ := hS; (try simp at hD); (try simp only [hD]); go_simp; done
  · exact (truth_any false W).mono fun e W' ⟨he, hB⟩ => ⟨⟨_, he, rfl⟩, hB⟩
  simp only [List.nil_append, List.cons_append]
  refine seqi_run ?_ (fun vs W hD => (by first | rfl | (simp at hD; simp [Region.wanted, yielded, hD]))) (fun vs W hS hD => ?_) ?_
  rotate_left
  · obtain _ := hS; (try simp at hD); (try simp only [hD]); (first | (go_simp; done) | (go_simp; rfl))
  simp only [List.nil_append, List.cons_append]
  refine seqi_run ?_ (fun vs W hD => (by first | rfl | (simp at hD; simp [Region.wanted, yielded, hD]))) (fun vs W hS hD => ?_) ?_
  rotate_left
  · obtain _ := hS; (try simp at hD); (try simp only [hD]); (first | (go_simp; done) | (go_simp; rfl))
  simp only [List.nil_append, List.cons_append]
  refine seqi_end fun vs W1 hS hv => ?_
  simp only [AllF, Nat.zero_add, Nat.reduceAdd] at hv
  obtain ⟨h0, h1, h2, h3, h4, _⟩ := hv
  replace HC := Lib.hid (HC.out.later hS)
  replace HX := Lib.hid (HX.out.later hS)
  replace HBB := Lib.hid (vnext HBB.out hS)
  simp only [h0, h1, h2, h3, h4]
  clear h0 h1 h2 h3 h4 hS
  have hX := HX.out
  obtain ⟨x0, x1, x2, z0, z1, z2⟩ := hX.cells
  have hXl := hX.lt
  have HBW := HBB
  have hq : B3 (((W1.setCell ⟨(w.heap.size + 1), 0, none⟩ (.int .u8 3)).setCell ⟨(w.heap.size + 1), 1, none⟩ (.int .i64 0)).setCell ⟨(w.heap.size + 1), 2, none⟩ (.string ⟨#[]⟩)) (w.heap.size + 1) 3 0 ⟨#[]⟩ ∧ W1.grownBy (((W1.setCell ⟨(w.heap.size + 1), 0, none⟩ (.int .u8 3)).setCell ⟨(w.heap.size + 1), 1, none⟩ (.int .i64 0)).setCell ⟨(w.heap.size + 1), 2, none⟩ (.string ⟨#[]⟩)) (some ((w.heap.size + 1))) := hX.set 3 0 ⟨#[]⟩
  have hb5 := HBW.out.grown hq.2 HBW.out.size (fun q hq => by injection hq with hq; omega)
  obtain ⟨hq, _⟩ := hq
  go_wp2_with fail
  generalize ((W1.setCell ⟨(w.heap.size + 1), 0, none⟩ (.int .u8 3)).setCell ⟨(w.heap.size + 1), 1, none⟩ (.int .i64 0)).setCell ⟨(w.heap.size + 1), 2, none⟩ (.string ⟨#[]⟩) = w5 at *
  obtain ⟨y0, y1, y2, _, _, _⟩ := hq.cells
  refine bodyPost_ret (v := .agg #[.int .u8 3, .int .i64 0, .string ⟨#[]⟩]) (by simp [results, Tryz.results103, go_sem, y0, y1, y2]) rfl ⟨rfl, hb5⟩
set_option maxRecDepth 100000 in
set_option maxHeartbeats 1600000 in
theorem text_m_t (w : World) : Calls Tryz.prog 103 #[.agg #[.int .u8 2, .int .i64 1, .string ⟨#[]⟩]] w fun e w' => e = .returned (.agg #[.int .u8 3, .int .i64 0, .string ⟨#[84, 82, 85, 69]⟩]) ∧ Below w.heap.size w w' := by
  have HS := Lib.hid (conti_start w 2 1 ⟨#[]⟩)
  go_enter Tryz.func103, Tryz.ntmps103
  go_wp2_with fail
  generalize (w.alloc (.cells #[.int .u8 2, .int .i64 1, .string ⟨#[]⟩] 98)).alloc (.cells #[.int .u8 0, .int .i64 0, .string ⟨#[]⟩] 23) = wa at *
  obtain ⟨hC, hX0, hB0⟩ := HS.out
  obtain ⟨c0, c1, c2⟩ := hC.cells
  have HC := Lib.hid hC
  have HX := Lib.hid hX0
  have HBB := Lib.hid hB0
  clear HS hC hX0 hB0
  refine wp_region_seqi (fun X => Below wa.heap.size wa X) (fun W W2 hB h => Below.next h hB) (by kernel_rfl) (by kernel_rfl) (by kernel_rfl) (Below.refl _ _).drew ?_
  simp only [putsL, Act.put, List.setIfInBounds_toArray, List.set_cons_zero, List.set_cons_succ, Nat.zero_add, Nat.reduceAdd]
  refine seqi_run ?_ (fun vs W hD => (by first | rfl | (simp at hD; simp [Region.wanted, yielded, hD]))) (fun vs W hS hD => ?_) ?_
  rotate_left
  · obtain _ := hS; (try simp at hD); (try simp only [hD]); (first | (go_simp; done) | (go_simp; rfl))
  simp only [List.nil_append]
  refine seqi_run ?_ (fun vs W hD => (by first | rfl | (simp at hD; simp [Region.wanted, yielded, hD]))) (fun vs W hS hD => ?_) ?_
  rotate_left
  · obtain ⟨c0, c1, c2⟩ := (HC.out.later hS).cells; obtain _ := hS; (try simp at hD); (try simp only [hD]); (first | (go_simp; done) | (go_simp; rfl))
  simp only [List.nil_append, List.cons_append]
  refine seqi_call (f := 119) (fun v _ => v = (.agg #[.int .u8 2, .int .i64 1, .string ⟨#[]⟩])) (stable_val _) (fun vs => #[.bool true]) (fun vs W hD => (by first | rfl | (simp at hD; simp [Region.wanted, yielded, hD]))) (fun vs W hS hD => ?_) (fun vs W hS hD => ?_) ?_
  · obtain _ := hS; (try simp at hD); (try simp only [hD]); go_simp; done
  · exact (truth_any true W).mono fun e W' ⟨he, hB⟩ => ⟨⟨_, he, rfl⟩, hB⟩
  simp only [List.nil_append, List.cons_append]
  refine seqi_run ?_ (fun vs W hD => (by first | rfl | (simp at hD; simp [Region.wanted, yielded, hD]))) (fun vs W hS hD => ?_) ?_
  rotate_left
  · obtain _ := hS; (try simp at hD); (try simp only [hD]); (first | (go_simp; done) | (go_simp; rfl))
  simp only [List.nil_append, List.cons_append]
  refine seqi_run ?_ (fun vs W hD => (by first | rfl | (simp at hD; simp [Region.wanted, yielded, hD]))) (fun vs W hS hD => ?_) ?_
  rotate_left
  · obtain _ := hS; (try simp at hD); (try simp only [hD]); (first | (go_simp; done) | (go_simp; rfl))
  simp only [List.nil_append, List.cons_append]
  refine seqi_end fun vs W0 hS hv => ?_
  simp only [AllF, Nat.zero_add, Nat.reduceAdd] at hv
  obtain ⟨h0, h1, h2, h3, h4, _⟩ := hv
  replace HC := Lib.hid (HC.out.later hS)
  replace HX := Lib.hid (HX.out.later hS)
  replace HBB := Lib.hid (vnext HBB.out hS)
  simp only [h0, h1, h2, h3, h4]
  clear h0 h1 h2 h3 h4 hS c0 c1 c2
  have hX := HX.out
  obtain ⟨x0, x1, x2, z0, z1, z2⟩ := hX.cells
  have hXl := hX.lt
  have HBW := HBB
  have hq : B3 (((W0.setCell ⟨(w.heap.size + 1), 0, none⟩ (.int .u8 3)).setCell ⟨(w.heap.size + 1), 1, none⟩ (.int .i64 0)).setCell ⟨(w.heap.size + 1), 2, none⟩ (.string ⟨#[84, 82, 85, 69]⟩)) (w.heap.size + 1) 3 0 ⟨#[84, 82, 85, 69]⟩ ∧ W0.grownBy (((W0.setCell ⟨(w.heap.size + 1), 0, none⟩ (.int .u8 3)).setCell ⟨(w.heap.size + 1), 1, none⟩ (.int .i64 0)).setCell ⟨(w.heap.size + 1), 2, none⟩ (.string ⟨#[84, 82, 85, 69]⟩)) (some ((w.heap.size + 1))) := hX.set 3 0 ⟨#[84, 82, 85, 69]⟩
  have hb5 := HBW.out.grown hq.2 HBW.out.size (fun q hq => by injection hq with hq; omega)
  obtain ⟨hq, _⟩ := hq
  go_wp2_with fail
  generalize ((W0.setCell ⟨(w.heap.size + 1), 0, none⟩ (.int .u8 3)).setCell ⟨(w.heap.size + 1), 1, none⟩ (.int .i64 0)).setCell ⟨(w.heap.size + 1), 2, none⟩ (.string ⟨#[84, 82, 85, 69]⟩) = w5 at *
  obtain ⟨y0, y1, y2, _, _, _⟩ := hq.cells
  refine bodyPost_ret (v := .agg #[.int .u8 3, .int .i64 0, .string ⟨#[84, 82, 85, 69]⟩]) (by simp [results, Tryz.results103, go_sem, y0, y1, y2]) rfl ⟨rfl, hb5⟩
set_option maxRecDepth 100000 in
set_option maxHeartbeats 1600000 in
theorem text_m_f (w : World) : Calls Tryz.prog 103 #[.agg #[.int .u8 2, .int .i64 0, .string ⟨#[]⟩]] w fun e w' => e = .returned (.agg #[.int .u8 3, .int .i64 0, .string ⟨#[70, 65, 76, 83, 69]⟩]) ∧ Below w.heap.size w w' := by
  have HS := Lib.hid (conti_start w 2 0 ⟨#[]⟩)
  go_enter Tryz.func103, Tryz.ntmps103
  go_wp2_with fail
  generalize (w.alloc (.cells #[.int .u8 2, .int .i64 0, .string ⟨#[]⟩] 98)).alloc (.cells #[.int .u8 0, .int .i64 0, .string ⟨#[]⟩] 23) = wa at *
  obtain ⟨hC, hX0, hB0⟩ := HS.out
  obtain ⟨c0, c1, c2⟩ := hC.cells
  have HC := Lib.hid hC
  have HX := Lib.hid hX0
  have HBB := Lib.hid hB0
  clear HS hC hX0 hB0
  refine wp_region_seqi (fun X => Below wa.heap.size wa X) (fun W W2 hB h => Below.next h hB) (by kernel_rfl) (by kernel_rfl) (by kernel_rfl) (Below.refl _ _).drew ?_
  simp only [putsL, Act.put, List.setIfInBounds_toArray, List.set_cons_zero, List.set_cons_succ, Nat.zero_add, Nat.reduceAdd]
  refine seqi_run ?_ (fun vs W hD => (by first | rfl | (simp at hD; simp [Region.wanted, yielded, hD]))) (fun vs W hS hD => ?_) ?_
  rotate_left
  · obtain _ := hS; (try simp at hD); (try simp only [hD]); (first | (go_simp; done) | (go_simp; rfl))
  simp only [List.nil_append]
  refine seqi_run ?_ (fun vs W hD => (by first | rfl | (simp at hD; simp [Region.wanted, yielded, hD]))) (fun vs W hS hD => ?_) ?_
  rotate_left
  · obtain ⟨c0, c1, c2⟩ := (HC.out.later hS).cells; obtain _ := hS; (try simp at hD); (try simp only [hD]); (first | (go_simp; done) | (go_simp; rfl))
  simp only [List.nil_append, List.cons_append]
  refine seqi_call (f := 119) (fun v _ => v = (.agg #[.int .u8 2, .int .i64 1, .string ⟨#[]⟩])) (stable_val _) (fun vs => #[.bool true]) (fun vs W hD => (by first | rfl | (simp at hD; simp [Region.wanted, yielded, hD]))) (fun vs W hS hD => ?_) (fun vs W hS hD => ?_) ?_
  · obtain _ := hS; (try simp at hD); (try simp only [hD]); go_simp; done
  · exact (truth_any true W).mono fun e W' ⟨he, hB⟩ => ⟨⟨_, he, rfl⟩, hB⟩
  simp only [List.nil_append, List.cons_append]
  refine seqi_run ?_ (fun vs W hD => (by first | rfl | (simp at hD; simp [Region.wanted, yielded, hD]))) (fun vs W hS hD => ?_) ?_
  rotate_left
  · obtain _ := hS; (try simp at hD); (try simp only [hD]); (first | (go_simp; done) | (go_simp; rfl))
  simp only [List.nil_append, List.cons_append]
  refine seqi_run ?_ (fun vs W hD => (by first | rfl | (simp at hD; simp [Region.wanted, yielded, hD]))) (fun vs W hS hD => ?_) ?_
  rotate_left
  · obtain _ := hS; (try simp at hD); (try simp only [hD]); (first | (go_simp; done) | (go_simp; rfl))
  simp only [List.nil_append, List.cons_append]
  refine seqi_end fun vs W0 hS hv => ?_
  simp only [AllF, Nat.zero_add, Nat.reduceAdd] at hv
  obtain ⟨h0, h1, h2, h3, h4, _⟩ := hv
  replace HC := Lib.hid (HC.out.later hS)
  replace HX := Lib.hid (HX.out.later hS)
  replace HBB := Lib.hid (vnext HBB.out hS)
  simp only [h0, h1, h2, h3, h4]
  clear h0 h1 h2 h3 h4 hS c0 c1 c2
  go_wp2_with fail
  refine wp_region_seqi (fun X => Below W0.heap.size W0 X) (fun W W2 hB h => Below.next h hB) (by kernel_rfl) (by kernel_rfl) (by kernel_rfl) (Below.refl _ _).drew ?_
  simp only [putsL, Act.put, List.setIfInBounds_toArray, List.set_cons_zero, List.set_cons_succ, Nat.zero_add, Nat.reduceAdd]
  refine seqi_run ?_ (fun vs W hD => (by first | rfl | (simp at hD; simp [Region.wanted, yielded, hD]))) (fun vs W hS hD => ?_) ?_
  rotate_left
  · obtain _ := hS; (try simp at hD); (try simp only [hD]); (first | (go_simp; done) | (go_simp; rfl))
  simp only [List.nil_append]
  refine seqi_run ?_ (fun vs W hD => (by first | rfl | (simp at hD; simp [Region.wanted, yielded, hD]))) (fun vs W hS hD => ?_) ?_
  rotate_left
  · obtain ⟨c0, c1, c2⟩ := (HC.out.later hS).cells; obtain _ := hS; (try simp at hD); (try simp only [hD]); (first | (go_simp; done) | (go_simp; rfl))
  simp only [List.nil_append, List.cons_append]
  refine seqi_call (f := 119) (fun v _ => v = (.agg #[.int .u8 2, .int .i64 0, .string ⟨#[]⟩])) (stable_val _) (fun vs => #[.bool false]) (fun vs W hD => (by first | rfl | (simp at hD; simp [Region.wanted, yielded, hD]))) (fun vs W hS hD => ?_) (fun vs W hS hD => ?_) ?_
  · obtain _ := hS; (try simp at hD); (try simp only [hD]); go_simp; done
  · exact (truth_any false W).mono fun e W' ⟨he, hB⟩ => ⟨⟨_, he, rfl⟩, hB⟩
  simp only [List.nil_append, List.cons_append]
  refine seqi_run ?_ (fun vs W hD => (by first | rfl | (simp at hD; simp [Region.wanted, yielded, hD]))) (fun vs W hS hD => ?_) ?_
  rotate_left
  · obtain _ := hS; (try simp at hD); (try simp only [hD]); (first | (go_simp; done) | (go_simp; rfl))
  simp only [List.nil_append, List.cons_append]
  refine seqi_run ?_ (fun vs W hD => (by first | rfl | (simp at hD; simp [Region.wanted, yielded, hD]))) (fun vs W hS hD => ?_) ?_
  rotate_left
  · obtain _ := hS; (try simp at hD); (try simp only [hD]); (first | (go_simp; done) | (go_simp; rfl))
  simp only [List.nil_append, List.cons_append]
  refine seqi_end fun vs W1 hS hv => ?_
  simp only [AllF, Nat.zero_add, Nat.reduceAdd] at hv
  obtain ⟨h0, h1, h2, h3, h4, _⟩ := hv
  replace HC := Lib.hid (HC.out.later hS)
  replace HX := Lib.hid (HX.out.later hS)
  replace HBB := Lib.hid (vnext HBB.out hS)
  simp only [h0, h1, h2, h3, h4]
  clear h0 h1 h2 h3 h4 hS
  have hX := HX.out
  obtain ⟨x0, x1, x2, z0, z1, z2⟩ := hX.cells
  have hXl := hX.lt
  have HBW := HBB
  have hq : B3 (((W1.setCell ⟨(w.heap.size + 1), 0, none⟩ (.int .u8 3)).setCell ⟨(w.heap.size + 1), 1, none⟩ (.int .i64 0)).setCell ⟨(w.heap.size + 1), 2, none⟩ (.string ⟨#[70, 65, 76, 83, 69]⟩)) (w.heap.size + 1) 3 0 ⟨#[70, 65, 76, 83, 69]⟩ ∧ W1.grownBy (((W1.setCell ⟨(w.heap.size + 1), 0, none⟩ (.int .u8 3)).setCell ⟨(w.heap.size + 1), 1, none⟩ (.int .i64 0)).setCell ⟨(w.heap.size + 1), 2, none⟩ (.string ⟨#[70, 65, 76, 83, 69]⟩)) (some ((w.heap.size + 1))) := hX.set 3 0 ⟨#[70, 65, 76, 83, 69]⟩
  have hb5 := HBW.out.grown hq.2 HBW.out.size (fun q hq => by injection hq with hq; omega)
  obtain ⟨hq, _⟩ := hq
  go_wp2_with fail
  generalize ((W1.setCell ⟨(w.heap.size + 1), 0, none⟩ (.int .u8 3)).setCell ⟨(w.heap.size + 1), 1, none⟩ (.int .i64 0)).setCell ⟨(w.heap.size + 1), 2, none⟩ (.string ⟨#[70, 65, 76, 83, 69]⟩) = w5 at *
  obtain ⟨y0, y1, y2, _, _, _⟩ := hq.cells
  refine bodyPost_ret (v := .agg #[.int .u8 3, .int .i64 0, .string ⟨#[70, 65, 76, 83, 69]⟩]) (by simp [results, Tryz.results103, go_sem, y0, y1, y2]) rfl ⟨rfl, hb5⟩
end Go.Proofs.YtdanbabamcdebaaGreatDoor.Va
/- The contracts of converted, ToNumber, ToText and ToBool. -/
namespace Go.Proofs.YtdanbabamcdebaaGreatDoor.Va
open Go Go.RowKit GM
def cvR (kd : Nat) (k : Nat) (n : Int) (s : ByteArray) : Nat × Int × ByteArray :=
  if vE k n s.data.toList = 0 then
    (if k = kd ∨ k = 4 then (k, n, s)
     else if kd = 1 then ((nbR k n s).1, (nbR k n s).2, ⟨#[]⟩)
     else if kd = 2 then ((trR k n s).1, (trR k n s).2, ⟨#[]⟩)
     else (3, 0, if k = 1 then ⟨(Tx.fmtL n).toArray⟩ else if k = 2 then (if n = 1 then ⟨#[84, 82, 85, 69]⟩ else ⟨#[70, 65, 76, 83, 69]⟩) else ⟨#[]⟩))
  else (4, 2, ⟨#[]⟩)
theorem vE_two (k : Nat) (n : Int) (l : List UInt8) (h : vE k n l ≠ 0) : vE k n l = 2 := by
  unfold vE at *
  split at h
  · exact absurd rfl h
  · rename_i h2; rw [if_neg h2]
set_option maxRecDepth 100000 in
set_option maxHeartbeats 1600000 in
theorem convb_num (k : Nat) (n : Int) (s : ByteArray) (hs : s.size ≤ maxLen) (hn : leastI ≤ n) (hv : vE k n s.data.toList = 2) (w : World) :
    Calls Tryz.prog 56 #[.agg #[.int .u8 (k : Int), .int .i64 n, .string s], .int .u8 1] w fun e w' => e = .returned (.agg #[.int .u8 4, .int .i64 2, .string ⟨#[]⟩]) ∧ Below w.heap.size w w' := by
  have HA := Lib.hid (B3.start w k n s)
  have HA2 := Lib.hid (HA.out.later (valloc _ (.cells #[.int .u8 0, .int .i64 0, .string ⟨#[]⟩] 23)))
  have HR0 : Hid (B3 ((w.alloc (.cells #[.int .u8 (k : Int), .int .i64 n, .string s] 23)).alloc (.cells #[.int .u8 0, .int .i64 0, .string ⟨#[]⟩] 23)) (w.heap.size + 1) 0 0 ⟨#[]⟩) := by
    have := B3.start (w.alloc (.cells #[.int .u8 (k : Int), .int .i64 n, .string s] 23)) 0 0 ⟨#[]⟩
    rwa [World.size_alloc] at this
  have HW : Hid (Below w.heap.size w ((w.alloc (.cells #[.int .u8 (k : Int), .int .i64 n, .string s] 23)).alloc (.cells #[.int .u8 0, .int .i64 0, .string ⟨#[]⟩] 23))) := Lib.hid (vnext (valloc _ _) (valloc _ _))
  clear HA
  go_enter Tryz.func56, Tryz.ntmps56
  go_wp2_with fail
  generalize (w.alloc (.cells #[.int .u8 (k : Int), .int .i64 n, .string s] 23)).alloc (.cells #[.int .u8 0, .int .i64 0, .string ⟨#[]⟩] 23) = wa at *
  refine (vcheck_any k n s hs hn _).mono ?_
  rw [hv]
  rintro e w1 ⟨rfl, hB⟩
  have hX := HA2.out.later hB
  obtain ⟨x0, x1, x2, z0, z1, z2⟩ := hX.cells
  have HR1 := Lib.hid (HR0.out.later hB)
  have HW1 := Lib.hid (vnext HW.out hB)
  clear hv hB
  clear x0 x1 x2 z0 z1 z2 hX
  go_wp2_with fail
  refine (fail_any 2 _).mono ?_
  rw [show flN 2 = 2 from rfl]
  rintro e w6 ⟨rfl, hB⟩
  have hX : B3 w6 (w.heap.size + 1) 0 0 ⟨#[]⟩ := HR1.out.later hB
  have HBW := Lib.hid (vnext HW1.out hB)
  clear hB
  obtain ⟨x0, x1, x2, z0, z1, z2⟩ := hX.cells
  have hXl := hX.lt
  have hq : B3 (((w6.setCell ⟨(w.heap.size + 1), 0, none⟩ (.int .u8 4)).setCell ⟨(w.heap.size + 1), 1, none⟩ (.int .i64 2)).setCell ⟨(w.heap.size + 1), 2, none⟩ (.string ⟨#[]⟩)) (w.heap.size + 1) 4 2 ⟨#[]⟩ ∧ w6.grownBy (((w6.setCell ⟨(w.heap.size + 1), 0, none⟩ (.int .u8 4)).setCell ⟨(w.heap.size + 1), 1, none⟩ (.int .i64 2)).setCell ⟨(w.heap.size + 1), 2, none⟩ (.string ⟨#[]⟩)) (some ((w.heap.size + 1))) := hX.set 4 2 ⟨#[]⟩
  have hb5 := HBW.out.grown hq.2 HBW.out.size (fun q hq => by injection hq with hq; omega)
  obtain ⟨hq, _⟩ := hq
  go_wp2_with fail
  generalize ((w6.setCell ⟨(w.heap.size + 1), 0, none⟩ (.int .u8 4)).setCell ⟨(w.heap.size + 1), 1, none⟩ (.int .i64 2)).setCell ⟨(w.heap.size + 1), 2, none⟩ (.string ⟨#[]⟩) = w5 at *
  obtain ⟨y0, y1, y2, _, _, _⟩ := hq.cells
  refine bodyPost_ret (v := .agg #[.int .u8 4, .int .i64 2, .string ⟨#[]⟩]) (by simp [results, Tryz.results56, go_sem, y0, y1, y2]) rfl ⟨rfl, hb5⟩
set_option maxRecDepth 100000 in
set_option maxHeartbeats 1600000 in
theorem convs_num (k : Nat) (n : Int) (s : ByteArray) (hs : s.size ≤ maxLen) (hn : leastI ≤ n) (hv : vE k n s.data.toList = 0) (hk : k = 1) (w : World) :
    Calls Tryz.prog 56 #[.agg #[.int .u8 (k : Int), .int .i64 n, .string s], .int .u8 1] w fun e w' => e = .returned (.agg #[.int .u8 (k : Int), .int .i64 n, .string s]) ∧ Below w.heap.size w w' := by
  have hkt : ((k : Int) == 1) = true := by subst hk; rfl
  clear hk
  have HA := Lib.hid (B3.start w k n s)
  have HA2 := Lib.hid (HA.out.later (valloc _ (.cells #[.int .u8 0, .int .i64 0, .string ⟨#[]⟩] 23)))
  have HR0 : Hid (B3 ((w.alloc (.cells #[.int .u8 (k : Int), .int .i64 n, .string s] 23)).alloc (.cells #[.int .u8 0, .int .i64 0, .string ⟨#[]⟩] 23)) (w.heap.size + 1) 0 0 ⟨#[]⟩) := by
    have := B3.start (w.alloc (.cells #[.int .u8 (k : Int), .int .i64 n, .string s] 23)) 0 0 ⟨#[]⟩
    rwa [World.size_alloc] at this
  have HW : Hid (Below w.heap.size w ((w.alloc (.cells #[.int .u8 (k : Int), .int .i64 n, .string s] 23)).alloc (.cells #[.int .u8 0, .int .i64 0, .string ⟨#[]⟩] 23))) := Lib.hid (vnext (valloc _ _) (valloc _ _))
  clear HA
  go_enter Tryz.func56, Tryz.ntmps56
  go_wp2_with fail
  generalize (w.alloc (.cells #[.int .u8 (k : Int), .int .i64 n, .string s] 23)).alloc (.cells #[.int .u8 0, .int .i64 0, .string ⟨#[]⟩] 23) = wa at *
  refine (vcheck_any k n s hs hn _).mono ?_
  rw [hv]
  rintro e w1 ⟨rfl, hB⟩
  have hX := HA2.out.later hB
  obtain ⟨x0, x1, x2, z0, z1, z2⟩ := hX.cells
  have HR1 := Lib.hid (HR0.out.later hB)
  have HW1 := Lib.hid (vnext HW.out hB)
  clear hv hB
  have HX := Lib.hid HR1.out
  have HBW := HW1
  obtain ⟨p0, p1, p2, q0, q1, q2⟩ := HR1.out.cells
  have hXl := HR1.out.lt
  have hX := HR1.out
  have hq : B3 (((w1.setCell ⟨(w.heap.size + 1), 0, none⟩ (.int .u8 (k : Int))).setCell ⟨(w.heap.size + 1), 1, none⟩ (.int .i64 n)).setCell ⟨(w.heap.size + 1), 2, none⟩ (.string s)) (w.heap.size + 1) k n s ∧ w1.grownBy (((w1.setCell ⟨(w.heap.size + 1), 0, none⟩ (.int .u8 (k : Int))).setCell ⟨(w.heap.size + 1), 1, none⟩ (.int .i64 n)).setCell ⟨(w.heap.size + 1), 2, none⟩ (.string s)) (some ((w.heap.size + 1))) := hX.set k n s
  have hb5 := HBW.out.grown hq.2 HBW.out.size (fun q hq => by injection hq with hq; omega)
  obtain ⟨hq, _⟩ := hq
  go_wp2_with fail
  generalize ((w1.setCell ⟨(w.heap.size + 1), 0, none⟩ (.int .u8 (k : Int))).setCell ⟨(w.heap.size + 1), 1, none⟩ (.int .i64 n)).setCell ⟨(w.heap.size + 1), 2, none⟩ (.string s) = w5 at *
  obtain ⟨y0, y1, y2, _, _, _⟩ := hq.cells
  refine bodyPost_ret (v := .agg #[.int .u8 (k : Int), .int .i64 n, .string s]) (by simp [results, Tryz.results56, go_sem, y0, y1, y2]) rfl ⟨rfl, hb5⟩
set_option maxRecDepth 100000 in
set_option maxHeartbeats 1600000 in
theorem conve_num (k : Nat) (n : Int) (s : ByteArray) (hs : s.size ≤ maxLen) (hn : leastI ≤ n) (hv : vE k n s.data.toList = 0) (hk : k = 4) (w : World) :
    Calls Tryz.prog 56 #[.agg #[.int .u8 (k : Int), .int .i64 n, .string s], .int .u8 1] w fun e w' => e = .returned (.agg #[.int .u8 (k : Int), .int .i64 n, .string s]) ∧ Below w.heap.size w w' := by
  have hkt : ((k : Int) == 1) = false := by subst hk; rfl
  have hk4 : ((k : Int) == 4) = true := by subst hk; rfl
  clear hk
  have HA := Lib.hid (B3.start w k n s)
  have HA2 := Lib.hid (HA.out.later (valloc _ (.cells #[.int .u8 0, .int .i64 0, .string ⟨#[]⟩] 23)))
  have HR0 : Hid (B3 ((w.alloc (.cells #[.int .u8 (k : Int), .int .i64 n, .string s] 23)).alloc (.cells #[.int .u8 0, .int .i64 0, .string ⟨#[]⟩] 23)) (w.heap.size + 1) 0 0 ⟨#[]⟩) := by
    have := B3.start (w.alloc (.cells #[.int .u8 (k : Int), .int .i64 n, .string s] 23)) 0 0 ⟨#[]⟩
    rwa [World.size_alloc] at this
  have HW : Hid (Below w.heap.size w ((w.alloc (.cells #[.int .u8 (k : Int), .int .i64 n, .string s] 23)).alloc (.cells #[.int .u8 0, .int .i64 0, .string ⟨#[]⟩] 23))) := Lib.hid (vnext (valloc _ _) (valloc _ _))
  clear HA
  go_enter Tryz.func56, Tryz.ntmps56
  go_wp2_with fail
  generalize (w.alloc (.cells #[.int .u8 (k : Int), .int .i64 n, .string s] 23)).alloc (.cells #[.int .u8 0, .int .i64 0, .string ⟨#[]⟩] 23) = wa at *
  refine (vcheck_any k n s hs hn _).mono ?_
  rw [hv]
  rintro e w1 ⟨rfl, hB⟩
  have hX := HA2.out.later hB
  obtain ⟨x0, x1, x2, z0, z1, z2⟩ := hX.cells
  have HR1 := Lib.hid (HR0.out.later hB)
  have HW1 := Lib.hid (vnext HW.out hB)
  clear hv hB
  have HX := Lib.hid HR1.out
  have HBW := HW1
  obtain ⟨p0, p1, p2, q0, q1, q2⟩ := HR1.out.cells
  have hXl := HR1.out.lt
  have hX := HR1.out
  have hq : B3 (((w1.setCell ⟨(w.heap.size + 1), 0, none⟩ (.int .u8 (k : Int))).setCell ⟨(w.heap.size + 1), 1, none⟩ (.int .i64 n)).setCell ⟨(w.heap.size + 1), 2, none⟩ (.string s)) (w.heap.size + 1) k n s ∧ w1.grownBy (((w1.setCell ⟨(w.heap.size + 1), 0, none⟩ (.int .u8 (k : Int))).setCell ⟨(w.heap.size + 1), 1, none⟩ (.int .i64 n)).setCell ⟨(w.heap.size + 1), 2, none⟩ (.string s)) (some ((w.heap.size + 1))) := hX.set k n s
  have hb5 := HBW.out.grown hq.2 HBW.out.size (fun q hq => by injection hq with hq; omega)
  obtain ⟨hq, _⟩ := hq
  go_wp2_with fail
  generalize ((w1.setCell ⟨(w.heap.size + 1), 0, none⟩ (.int .u8 (k : Int))).setCell ⟨(w.heap.size + 1), 1, none⟩ (.int .i64 n)).setCell ⟨(w.heap.size + 1), 2, none⟩ (.string s) = w5 at *
  obtain ⟨y0, y1, y2, _, _, _⟩ := hq.cells
  refine bodyPost_ret (v := .agg #[.int .u8 (k : Int), .int .i64 n, .string s]) (by simp [results, Tryz.results56, go_sem, y0, y1, y2]) rfl ⟨rfl, hb5⟩
set_option maxRecDepth 100000 in
set_option maxHeartbeats 1600000 in
theorem convb_text (k : Nat) (n : Int) (s : ByteArray) (hs : s.size ≤ maxLen) (hn : leastI ≤ n) (hv : vE k n s.data.toList = 2) (w : World) :
    Calls Tryz.prog 56 #[.agg #[.int .u8 (k : Int), .int .i64 n, .string s], .int .u8 3] w fun e w' => e = .returned (.agg #[.int .u8 4, .int .i64 2, .string ⟨#[]⟩]) ∧ Below w.heap.size w w' := by
  have HA := Lib.hid (B3.start w k n s)
  have HA2 := Lib.hid (HA.out.later (valloc _ (.cells #[.int .u8 0, .int .i64 0, .string ⟨#[]⟩] 23)))
  have HR0 : Hid (B3 ((w.alloc (.cells #[.int .u8 (k : Int), .int .i64 n, .string s] 23)).alloc (.cells #[.int .u8 0, .int .i64 0, .string ⟨#[]⟩] 23)) (w.heap.size + 1) 0 0 ⟨#[]⟩) := by
    have := B3.start (w.alloc (.cells #[.int .u8 (k : Int), .int .i64 n, .string s] 23)) 0 0 ⟨#[]⟩
    rwa [World.size_alloc] at this
  have HW : Hid (Below w.heap.size w ((w.alloc (.cells #[.int .u8 (k : Int), .int .i64 n, .string s] 23)).alloc (.cells #[.int .u8 0, .int .i64 0, .string ⟨#[]⟩] 23))) := Lib.hid (vnext (valloc _ _) (valloc _ _))
  clear HA
  go_enter Tryz.func56, Tryz.ntmps56
  go_wp2_with fail
  generalize (w.alloc (.cells #[.int .u8 (k : Int), .int .i64 n, .string s] 23)).alloc (.cells #[.int .u8 0, .int .i64 0, .string ⟨#[]⟩] 23) = wa at *
  refine (vcheck_any k n s hs hn _).mono ?_
  rw [hv]
  rintro e w1 ⟨rfl, hB⟩
  have hX := HA2.out.later hB
  obtain ⟨x0, x1, x2, z0, z1, z2⟩ := hX.cells
  have HR1 := Lib.hid (HR0.out.later hB)
  have HW1 := Lib.hid (vnext HW.out hB)
  clear hv hB
  clear x0 x1 x2 z0 z1 z2 hX
  go_wp2_with fail
  refine (fail_any 2 _).mono ?_
  rw [show flN 2 = 2 from rfl]
  rintro e w6 ⟨rfl, hB⟩
  have hX : B3 w6 (w.heap.size + 1) 0 0 ⟨#[]⟩ := HR1.out.later hB
  have HBW := Lib.hid (vnext HW1.out hB)
  clear hB
  obtain ⟨x0, x1, x2, z0, z1, z2⟩ := hX.cells
  have hXl := hX.lt
  have hq : B3 (((w6.setCell ⟨(w.heap.size + 1), 0, none⟩ (.int .u8 4)).setCell ⟨(w.heap.size + 1), 1, none⟩ (.int .i64 2)).setCell ⟨(w.heap.size + 1), 2, none⟩ (.string ⟨#[]⟩)) (w.heap.size + 1) 4 2 ⟨#[]⟩ ∧ w6.grownBy (((w6.setCell ⟨(w.heap.size + 1), 0, none⟩ (.int .u8 4)).setCell ⟨(w.heap.size + 1), 1, none⟩ (.int .i64 2)).setCell ⟨(w.heap.size + 1), 2, none⟩ (.string ⟨#[]⟩)) (some ((w.heap.size + 1))) := hX.set 4 2 ⟨#[]⟩
  have hb5 := HBW.out.grown hq.2 HBW.out.size (fun q hq => by injection hq with hq; omega)
  obtain ⟨hq, _⟩ := hq
  go_wp2_with fail
  generalize ((w6.setCell ⟨(w.heap.size + 1), 0, none⟩ (.int .u8 4)).setCell ⟨(w.heap.size + 1), 1, none⟩ (.int .i64 2)).setCell ⟨(w.heap.size + 1), 2, none⟩ (.string ⟨#[]⟩) = w5 at *
  obtain ⟨y0, y1, y2, _, _, _⟩ := hq.cells
  refine bodyPost_ret (v := .agg #[.int .u8 4, .int .i64 2, .string ⟨#[]⟩]) (by simp [results, Tryz.results56, go_sem, y0, y1, y2]) rfl ⟨rfl, hb5⟩
set_option maxRecDepth 100000 in
set_option maxHeartbeats 1600000 in
theorem convs_text (k : Nat) (n : Int) (s : ByteArray) (hs : s.size ≤ maxLen) (hn : leastI ≤ n) (hv : vE k n s.data.toList = 0) (hk : k = 3) (w : World) :
    Calls Tryz.prog 56 #[.agg #[.int .u8 (k : Int), .int .i64 n, .string s], .int .u8 3] w fun e w' => e = .returned (.agg #[.int .u8 (k : Int), .int .i64 n, .string s]) ∧ Below w.heap.size w w' := by
  have hkt : ((k : Int) == 3) = true := by subst hk; rfl
  clear hk
  have HA := Lib.hid (B3.start w k n s)
  have HA2 := Lib.hid (HA.out.later (valloc _ (.cells #[.int .u8 0, .int .i64 0, .string ⟨#[]⟩] 23)))
  have HR0 : Hid (B3 ((w.alloc (.cells #[.int .u8 (k : Int), .int .i64 n, .string s] 23)).alloc (.cells #[.int .u8 0, .int .i64 0, .string ⟨#[]⟩] 23)) (w.heap.size + 1) 0 0 ⟨#[]⟩) := by
    have := B3.start (w.alloc (.cells #[.int .u8 (k : Int), .int .i64 n, .string s] 23)) 0 0 ⟨#[]⟩
    rwa [World.size_alloc] at this
  have HW : Hid (Below w.heap.size w ((w.alloc (.cells #[.int .u8 (k : Int), .int .i64 n, .string s] 23)).alloc (.cells #[.int .u8 0, .int .i64 0, .string ⟨#[]⟩] 23))) := Lib.hid (vnext (valloc _ _) (valloc _ _))
  clear HA
  go_enter Tryz.func56, Tryz.ntmps56
  go_wp2_with fail
  generalize (w.alloc (.cells #[.int .u8 (k : Int), .int .i64 n, .string s] 23)).alloc (.cells #[.int .u8 0, .int .i64 0, .string ⟨#[]⟩] 23) = wa at *
  refine (vcheck_any k n s hs hn _).mono ?_
  rw [hv]
  rintro e w1 ⟨rfl, hB⟩
  have hX := HA2.out.later hB
  obtain ⟨x0, x1, x2, z0, z1, z2⟩ := hX.cells
  have HR1 := Lib.hid (HR0.out.later hB)
  have HW1 := Lib.hid (vnext HW.out hB)
  clear hv hB
  have HX := Lib.hid HR1.out
  have HBW := HW1
  obtain ⟨p0, p1, p2, q0, q1, q2⟩ := HR1.out.cells
  have hXl := HR1.out.lt
  have hX := HR1.out
  have hq : B3 (((w1.setCell ⟨(w.heap.size + 1), 0, none⟩ (.int .u8 (k : Int))).setCell ⟨(w.heap.size + 1), 1, none⟩ (.int .i64 n)).setCell ⟨(w.heap.size + 1), 2, none⟩ (.string s)) (w.heap.size + 1) k n s ∧ w1.grownBy (((w1.setCell ⟨(w.heap.size + 1), 0, none⟩ (.int .u8 (k : Int))).setCell ⟨(w.heap.size + 1), 1, none⟩ (.int .i64 n)).setCell ⟨(w.heap.size + 1), 2, none⟩ (.string s)) (some ((w.heap.size + 1))) := hX.set k n s
  have hb5 := HBW.out.grown hq.2 HBW.out.size (fun q hq => by injection hq with hq; omega)
  obtain ⟨hq, _⟩ := hq
  go_wp2_with fail
  generalize ((w1.setCell ⟨(w.heap.size + 1), 0, none⟩ (.int .u8 (k : Int))).setCell ⟨(w.heap.size + 1), 1, none⟩ (.int .i64 n)).setCell ⟨(w.heap.size + 1), 2, none⟩ (.string s) = w5 at *
  obtain ⟨y0, y1, y2, _, _, _⟩ := hq.cells
  refine bodyPost_ret (v := .agg #[.int .u8 (k : Int), .int .i64 n, .string s]) (by simp [results, Tryz.results56, go_sem, y0, y1, y2]) rfl ⟨rfl, hb5⟩
set_option maxRecDepth 100000 in
set_option maxHeartbeats 1600000 in
theorem conve_text (k : Nat) (n : Int) (s : ByteArray) (hs : s.size ≤ maxLen) (hn : leastI ≤ n) (hv : vE k n s.data.toList = 0) (hk : k = 4) (w : World) :
    Calls Tryz.prog 56 #[.agg #[.int .u8 (k : Int), .int .i64 n, .string s], .int .u8 3] w fun e w' => e = .returned (.agg #[.int .u8 (k : Int), .int .i64 n, .string s]) ∧ Below w.heap.size w w' := by
  have hkt : ((k : Int) == 3) = false := by subst hk; rfl
  have hk4 : ((k : Int) == 4) = true := by subst hk; rfl
  clear hk
  have HA := Lib.hid (B3.start w k n s)
  have HA2 := Lib.hid (HA.out.later (valloc _ (.cells #[.int .u8 0, .int .i64 0, .string ⟨#[]⟩] 23)))
  have HR0 : Hid (B3 ((w.alloc (.cells #[.int .u8 (k : Int), .int .i64 n, .string s] 23)).alloc (.cells #[.int .u8 0, .int .i64 0, .string ⟨#[]⟩] 23)) (w.heap.size + 1) 0 0 ⟨#[]⟩) := by
    have := B3.start (w.alloc (.cells #[.int .u8 (k : Int), .int .i64 n, .string s] 23)) 0 0 ⟨#[]⟩
    rwa [World.size_alloc] at this
  have HW : Hid (Below w.heap.size w ((w.alloc (.cells #[.int .u8 (k : Int), .int .i64 n, .string s] 23)).alloc (.cells #[.int .u8 0, .int .i64 0, .string ⟨#[]⟩] 23))) := Lib.hid (vnext (valloc _ _) (valloc _ _))
  clear HA
  go_enter Tryz.func56, Tryz.ntmps56
  go_wp2_with fail
  generalize (w.alloc (.cells #[.int .u8 (k : Int), .int .i64 n, .string s] 23)).alloc (.cells #[.int .u8 0, .int .i64 0, .string ⟨#[]⟩] 23) = wa at *
  refine (vcheck_any k n s hs hn _).mono ?_
  rw [hv]
  rintro e w1 ⟨rfl, hB⟩
  have hX := HA2.out.later hB
  obtain ⟨x0, x1, x2, z0, z1, z2⟩ := hX.cells
  have HR1 := Lib.hid (HR0.out.later hB)
  have HW1 := Lib.hid (vnext HW.out hB)
  clear hv hB
  have HX := Lib.hid HR1.out
  have HBW := HW1
  obtain ⟨p0, p1, p2, q0, q1, q2⟩ := HR1.out.cells
  have hXl := HR1.out.lt
  have hX := HR1.out
  have hq : B3 (((w1.setCell ⟨(w.heap.size + 1), 0, none⟩ (.int .u8 (k : Int))).setCell ⟨(w.heap.size + 1), 1, none⟩ (.int .i64 n)).setCell ⟨(w.heap.size + 1), 2, none⟩ (.string s)) (w.heap.size + 1) k n s ∧ w1.grownBy (((w1.setCell ⟨(w.heap.size + 1), 0, none⟩ (.int .u8 (k : Int))).setCell ⟨(w.heap.size + 1), 1, none⟩ (.int .i64 n)).setCell ⟨(w.heap.size + 1), 2, none⟩ (.string s)) (some ((w.heap.size + 1))) := hX.set k n s
  have hb5 := HBW.out.grown hq.2 HBW.out.size (fun q hq => by injection hq with hq; omega)
  obtain ⟨hq, _⟩ := hq
  go_wp2_with fail
  generalize ((w1.setCell ⟨(w.heap.size + 1), 0, none⟩ (.int .u8 (k : Int))).setCell ⟨(w.heap.size + 1), 1, none⟩ (.int .i64 n)).setCell ⟨(w.heap.size + 1), 2, none⟩ (.string s) = w5 at *
  obtain ⟨y0, y1, y2, _, _, _⟩ := hq.cells
  refine bodyPost_ret (v := .agg #[.int .u8 (k : Int), .int .i64 n, .string s]) (by simp [results, Tryz.results56, go_sem, y0, y1, y2]) rfl ⟨rfl, hb5⟩
set_option maxRecDepth 100000 in
set_option maxHeartbeats 1600000 in
theorem convb_bool (k : Nat) (n : Int) (s : ByteArray) (hs : s.size ≤ maxLen) (hn : leastI ≤ n) (hv : vE k n s.data.toList = 2) (w : World) :
    Calls Tryz.prog 56 #[.agg #[.int .u8 (k : Int), .int .i64 n, .string s], .int .u8 2] w fun e w' => e = .returned (.agg #[.int .u8 4, .int .i64 2, .string ⟨#[]⟩]) ∧ Below w.heap.size w w' := by
  have HA := Lib.hid (B3.start w k n s)
  have HA2 := Lib.hid (HA.out.later (valloc _ (.cells #[.int .u8 0, .int .i64 0, .string ⟨#[]⟩] 23)))
  have HR0 : Hid (B3 ((w.alloc (.cells #[.int .u8 (k : Int), .int .i64 n, .string s] 23)).alloc (.cells #[.int .u8 0, .int .i64 0, .string ⟨#[]⟩] 23)) (w.heap.size + 1) 0 0 ⟨#[]⟩) := by
    have := B3.start (w.alloc (.cells #[.int .u8 (k : Int), .int .i64 n, .string s] 23)) 0 0 ⟨#[]⟩
    rwa [World.size_alloc] at this
  have HW : Hid (Below w.heap.size w ((w.alloc (.cells #[.int .u8 (k : Int), .int .i64 n, .string s] 23)).alloc (.cells #[.int .u8 0, .int .i64 0, .string ⟨#[]⟩] 23))) := Lib.hid (vnext (valloc _ _) (valloc _ _))
  clear HA
  go_enter Tryz.func56, Tryz.ntmps56
  go_wp2_with fail
  generalize (w.alloc (.cells #[.int .u8 (k : Int), .int .i64 n, .string s] 23)).alloc (.cells #[.int .u8 0, .int .i64 0, .string ⟨#[]⟩] 23) = wa at *
  refine (vcheck_any k n s hs hn _).mono ?_
  rw [hv]
  rintro e w1 ⟨rfl, hB⟩
  have hX := HA2.out.later hB
  obtain ⟨x0, x1, x2, z0, z1, z2⟩ := hX.cells
  have HR1 := Lib.hid (HR0.out.later hB)
  have HW1 := Lib.hid (vnext HW.out hB)
  clear hv hB
  clear x0 x1 x2 z0 z1 z2 hX
  go_wp2_with fail
  refine (fail_any 2 _).mono ?_
  rw [show flN 2 = 2 from rfl]
  rintro e w6 ⟨rfl, hB⟩
  have hX : B3 w6 (w.heap.size + 1) 0 0 ⟨#[]⟩ := HR1.out.later hB
  have HBW := Lib.hid (vnext HW1.out hB)
  clear hB
  obtain ⟨x0, x1, x2, z0, z1, z2⟩ := hX.cells
  have hXl := hX.lt
  have hq : B3 (((w6.setCell ⟨(w.heap.size + 1), 0, none⟩ (.int .u8 4)).setCell ⟨(w.heap.size + 1), 1, none⟩ (.int .i64 2)).setCell ⟨(w.heap.size + 1), 2, none⟩ (.string ⟨#[]⟩)) (w.heap.size + 1) 4 2 ⟨#[]⟩ ∧ w6.grownBy (((w6.setCell ⟨(w.heap.size + 1), 0, none⟩ (.int .u8 4)).setCell ⟨(w.heap.size + 1), 1, none⟩ (.int .i64 2)).setCell ⟨(w.heap.size + 1), 2, none⟩ (.string ⟨#[]⟩)) (some ((w.heap.size + 1))) := hX.set 4 2 ⟨#[]⟩
  have hb5 := HBW.out.grown hq.2 HBW.out.size (fun q hq => by injection hq with hq; omega)
  obtain ⟨hq, _⟩ := hq
  go_wp2_with fail
  generalize ((w6.setCell ⟨(w.heap.size + 1), 0, none⟩ (.int .u8 4)).setCell ⟨(w.heap.size + 1), 1, none⟩ (.int .i64 2)).setCell ⟨(w.heap.size + 1), 2, none⟩ (.string ⟨#[]⟩) = w5 at *
  obtain ⟨y0, y1, y2, _, _, _⟩ := hq.cells
  refine bodyPost_ret (v := .agg #[.int .u8 4, .int .i64 2, .string ⟨#[]⟩]) (by simp [results, Tryz.results56, go_sem, y0, y1, y2]) rfl ⟨rfl, hb5⟩
set_option maxRecDepth 100000 in
set_option maxHeartbeats 1600000 in
theorem convs_bool (k : Nat) (n : Int) (s : ByteArray) (hs : s.size ≤ maxLen) (hn : leastI ≤ n) (hv : vE k n s.data.toList = 0) (hk : k = 2) (w : World) :
    Calls Tryz.prog 56 #[.agg #[.int .u8 (k : Int), .int .i64 n, .string s], .int .u8 2] w fun e w' => e = .returned (.agg #[.int .u8 (k : Int), .int .i64 n, .string s]) ∧ Below w.heap.size w w' := by
  have hkt : ((k : Int) == 2) = true := by subst hk; rfl
  clear hk
  have HA := Lib.hid (B3.start w k n s)
  have HA2 := Lib.hid (HA.out.later (valloc _ (.cells #[.int .u8 0, .int .i64 0, .string ⟨#[]⟩] 23)))
  have HR0 : Hid (B3 ((w.alloc (.cells #[.int .u8 (k : Int), .int .i64 n, .string s] 23)).alloc (.cells #[.int .u8 0, .int .i64 0, .string ⟨#[]⟩] 23)) (w.heap.size + 1) 0 0 ⟨#[]⟩) := by
    have := B3.start (w.alloc (.cells #[.int .u8 (k : Int), .int .i64 n, .string s] 23)) 0 0 ⟨#[]⟩
    rwa [World.size_alloc] at this
  have HW : Hid (Below w.heap.size w ((w.alloc (.cells #[.int .u8 (k : Int), .int .i64 n, .string s] 23)).alloc (.cells #[.int .u8 0, .int .i64 0, .string ⟨#[]⟩] 23))) := Lib.hid (vnext (valloc _ _) (valloc _ _))
  clear HA
  go_enter Tryz.func56, Tryz.ntmps56
  go_wp2_with fail
  generalize (w.alloc (.cells #[.int .u8 (k : Int), .int .i64 n, .string s] 23)).alloc (.cells #[.int .u8 0, .int .i64 0, .string ⟨#[]⟩] 23) = wa at *
  refine (vcheck_any k n s hs hn _).mono ?_
  rw [hv]
  rintro e w1 ⟨rfl, hB⟩
  have hX := HA2.out.later hB
  obtain ⟨x0, x1, x2, z0, z1, z2⟩ := hX.cells
  have HR1 := Lib.hid (HR0.out.later hB)
  have HW1 := Lib.hid (vnext HW.out hB)
  clear hv hB
  have HX := Lib.hid HR1.out
  have HBW := HW1
  obtain ⟨p0, p1, p2, q0, q1, q2⟩ := HR1.out.cells
  have hXl := HR1.out.lt
  have hX := HR1.out
  have hq : B3 (((w1.setCell ⟨(w.heap.size + 1), 0, none⟩ (.int .u8 (k : Int))).setCell ⟨(w.heap.size + 1), 1, none⟩ (.int .i64 n)).setCell ⟨(w.heap.size + 1), 2, none⟩ (.string s)) (w.heap.size + 1) k n s ∧ w1.grownBy (((w1.setCell ⟨(w.heap.size + 1), 0, none⟩ (.int .u8 (k : Int))).setCell ⟨(w.heap.size + 1), 1, none⟩ (.int .i64 n)).setCell ⟨(w.heap.size + 1), 2, none⟩ (.string s)) (some ((w.heap.size + 1))) := hX.set k n s
  have hb5 := HBW.out.grown hq.2 HBW.out.size (fun q hq => by injection hq with hq; omega)
  obtain ⟨hq, _⟩ := hq
  go_wp2_with fail
  generalize ((w1.setCell ⟨(w.heap.size + 1), 0, none⟩ (.int .u8 (k : Int))).setCell ⟨(w.heap.size + 1), 1, none⟩ (.int .i64 n)).setCell ⟨(w.heap.size + 1), 2, none⟩ (.string s) = w5 at *
  obtain ⟨y0, y1, y2, _, _, _⟩ := hq.cells
  refine bodyPost_ret (v := .agg #[.int .u8 (k : Int), .int .i64 n, .string s]) (by simp [results, Tryz.results56, go_sem, y0, y1, y2]) rfl ⟨rfl, hb5⟩
set_option maxRecDepth 100000 in
set_option maxHeartbeats 1600000 in
theorem conve_bool (k : Nat) (n : Int) (s : ByteArray) (hs : s.size ≤ maxLen) (hn : leastI ≤ n) (hv : vE k n s.data.toList = 0) (hk : k = 4) (w : World) :
    Calls Tryz.prog 56 #[.agg #[.int .u8 (k : Int), .int .i64 n, .string s], .int .u8 2] w fun e w' => e = .returned (.agg #[.int .u8 (k : Int), .int .i64 n, .string s]) ∧ Below w.heap.size w w' := by
  have hkt : ((k : Int) == 2) = false := by subst hk; rfl
  have hk4 : ((k : Int) == 4) = true := by subst hk; rfl
  clear hk
  have HA := Lib.hid (B3.start w k n s)
  have HA2 := Lib.hid (HA.out.later (valloc _ (.cells #[.int .u8 0, .int .i64 0, .string ⟨#[]⟩] 23)))
  have HR0 : Hid (B3 ((w.alloc (.cells #[.int .u8 (k : Int), .int .i64 n, .string s] 23)).alloc (.cells #[.int .u8 0, .int .i64 0, .string ⟨#[]⟩] 23)) (w.heap.size + 1) 0 0 ⟨#[]⟩) := by
    have := B3.start (w.alloc (.cells #[.int .u8 (k : Int), .int .i64 n, .string s] 23)) 0 0 ⟨#[]⟩
    rwa [World.size_alloc] at this
  have HW : Hid (Below w.heap.size w ((w.alloc (.cells #[.int .u8 (k : Int), .int .i64 n, .string s] 23)).alloc (.cells #[.int .u8 0, .int .i64 0, .string ⟨#[]⟩] 23))) := Lib.hid (vnext (valloc _ _) (valloc _ _))
  clear HA
  go_enter Tryz.func56, Tryz.ntmps56
  go_wp2_with fail
  generalize (w.alloc (.cells #[.int .u8 (k : Int), .int .i64 n, .string s] 23)).alloc (.cells #[.int .u8 0, .int .i64 0, .string ⟨#[]⟩] 23) = wa at *
  refine (vcheck_any k n s hs hn _).mono ?_
  rw [hv]
  rintro e w1 ⟨rfl, hB⟩
  have hX := HA2.out.later hB
  obtain ⟨x0, x1, x2, z0, z1, z2⟩ := hX.cells
  have HR1 := Lib.hid (HR0.out.later hB)
  have HW1 := Lib.hid (vnext HW.out hB)
  clear hv hB
  have HX := Lib.hid HR1.out
  have HBW := HW1
  obtain ⟨p0, p1, p2, q0, q1, q2⟩ := HR1.out.cells
  have hXl := HR1.out.lt
  have hX := HR1.out
  have hq : B3 (((w1.setCell ⟨(w.heap.size + 1), 0, none⟩ (.int .u8 (k : Int))).setCell ⟨(w.heap.size + 1), 1, none⟩ (.int .i64 n)).setCell ⟨(w.heap.size + 1), 2, none⟩ (.string s)) (w.heap.size + 1) k n s ∧ w1.grownBy (((w1.setCell ⟨(w.heap.size + 1), 0, none⟩ (.int .u8 (k : Int))).setCell ⟨(w.heap.size + 1), 1, none⟩ (.int .i64 n)).setCell ⟨(w.heap.size + 1), 2, none⟩ (.string s)) (some ((w.heap.size + 1))) := hX.set k n s
  have hb5 := HBW.out.grown hq.2 HBW.out.size (fun q hq => by injection hq with hq; omega)
  obtain ⟨hq, _⟩ := hq
  go_wp2_with fail
  generalize ((w1.setCell ⟨(w.heap.size + 1), 0, none⟩ (.int .u8 (k : Int))).setCell ⟨(w.heap.size + 1), 1, none⟩ (.int .i64 n)).setCell ⟨(w.heap.size + 1), 2, none⟩ (.string s) = w5 at *
  obtain ⟨y0, y1, y2, _, _, _⟩ := hq.cells
  refine bodyPost_ret (v := .agg #[.int .u8 (k : Int), .int .i64 n, .string s]) (by simp [results, Tryz.results56, go_sem, y0, y1, y2]) rfl ⟨rfl, hb5⟩
end Go.Proofs.YtdanbabamcdebaaGreatDoor.Va
/- The contracts of ToNumber, ToText and ToBool. -/
namespace Go.Proofs.YtdanbabamcdebaaGreatDoor.Va
open Go Go.RowKit GM
theorem vld_sort {k : Nat} {n : Int} {s : ByteArray} (h : vE k n s.data.toList = 0) : (k = 0 ∧ n = 0 ∧ s = ⟨#[]⟩) ∨ (k = 1 ∧ n ≠ leastI ∧ s = ⟨#[]⟩) ∨ (k = 2 ∧ (n = 0 ∨ n = 1) ∧ s = ⟨#[]⟩) ∨ (k = 3 ∧ n = 0) ∨ (k = 4 ∧ (1 ≤ n ∧ n ≤ 6) ∧ s = ⟨#[]⟩) := by
  have hv : vldV k n s.data.toList = true := by
    unfold vE at h
    split at h
    · assumption
    · omega
  have emp : s.data.toList.isEmpty = true → s = ⟨#[]⟩ := fun e => ByteArray.ext (by simpa using e)
  unfold vldV at hv
  split at hv
  · simp only [Bool.and_eq_true, decide_eq_true_eq] at hv; exact .inl ⟨by assumption, hv.1, emp hv.2⟩
  split at hv
  · simp only [Bool.and_eq_true, decide_eq_true_eq] at hv; exact .inr (.inl ⟨by assumption, hv.1, emp hv.2⟩)
  split at hv
  · simp only [Bool.and_eq_true, decide_eq_true_eq] at hv; exact .inr (.inr (.inl ⟨by assumption, hv.1, emp hv.2⟩))
  split at hv
  · simp only [Bool.and_eq_true, decide_eq_true_eq] at hv; exact .inr (.inr (.inr (.inl ⟨by assumption, hv.1⟩)))
  split at hv
  · simp only [Bool.and_eq_true, decide_eq_true_eq] at hv; exact .inr (.inr (.inr (.inr ⟨by assumption, hv.1, emp hv.2⟩)))
  · cases hv
theorem maxLen_of {s : ByteArray} (h : s.size ≤ 2000) : s.size ≤ maxLen := by unfold maxLen; omega
end Go.Proofs.YtdanbabamcdebaaGreatDoor.Va
/- The arithmetic of what converts: kinds, and what a second conversion gives. -/
namespace Go.Proofs.YtdanbabamcdebaaGreatDoor.Va
open Go Go.RowKit GM
theorem mk_sort (n : Int) : (mkK n = 4 ∧ mkN n = 3) ∨ (mkK n = 1 ∧ mkN n = n ∧ n ≠ leastI) := by
  unfold mkK mkN
  by_cases h : n = leastI
  · exact .inl ⟨if_pos h, if_pos h⟩
  · exact .inr ⟨if_neg h, if_neg h, h⟩
theorem nb_sort (k : Nat) (n : Int) (s : ByteArray) : ((nbR k n s).1 = 4 ∧ ((nbR k n s).2 = 3 ∨ (nbR k n s).2 = 2)) ∨ ((nbR k n s).1 = 1 ∧ (nbR k n s).2 ≠ leastI) := by
  unfold nbR
  split
  · split
    · rcases mk_sort (Tx.parV (trim s.data.toList)) with ⟨a, b⟩ | ⟨a, b, c⟩
      · exact .inl ⟨a, .inl b⟩
      · exact .inr ⟨a, by rw [b]; exact c⟩
    · split
      · exact .inl ⟨rfl, .inl rfl⟩
      · exact .inl ⟨rfl, .inr rfl⟩
  · rcases mk_sort (n * 10000) with ⟨a, b⟩ | ⟨a, b, c⟩
    · exact .inl ⟨a, .inl b⟩
    · exact .inr ⟨a, by rw [b]; exact c⟩
theorem tr_sort (k : Nat) (n : Int) (s : ByteArray) : trR k n s = (4, 2) ∨ trR k n s = (2, 1) ∨ trR k n s = (2, 0) := by
  unfold trR
  split
  · split
    · exact .inr (.inl rfl)
    · split
      · exact .inr (.inr rfl)
      · exact .inl rfl
  · split
    · exact .inr (.inr rfl)
    · exact .inr (.inl rfl)
theorem vE_err {n : Int} (h : 1 ≤ n ∧ n ≤ 6) : vE 4 n [] = 0 := by unfold vE vldV; simp [h]
theorem vE_num {n : Int} (h : n ≠ leastI) : vE 1 n [] = 0 := by unfold vE vldV; simp [h]
theorem vE_bool {n : Int} (h : n = 0 ∨ n = 1) : vE 2 n [] = 0 := by unfold vE vldV; simp [h]
/-- A number, or an error. -/
theorem cv1_ok (k : Nat) (n : Int) (s : ByteArray) : vE (cvR 1 k n s).1 (cvR 1 k n s).2.1 (cvR 1 k n s).2.2.data.toList = 0 ∧ ((cvR 1 k n s).1 = 1 ∨ (cvR 1 k n s).1 = 4) := by
  unfold cvR
  split
  · rename_i h0
    split
    · rename_i h1; exact ⟨h0, h1⟩
    · rw [if_pos rfl]
      rcases nb_sort k n s with ⟨a, b⟩ | ⟨a, b⟩
      · refine ⟨?_, .inr a⟩
        show vE (nbR k n s).1 (nbR k n s).2 [] = 0
        rw [a]; exact vE_err (by omega)
      · refine ⟨?_, .inl a⟩
        show vE (nbR k n s).1 (nbR k n s).2 [] = 0
        rw [a]; exact vE_num b
  · exact ⟨vE_err (n := 2) (by omega), .inr rfl⟩
/-- A bool, or an error. -/
theorem cv2_ok (k : Nat) (n : Int) (s : ByteArray) : vE (cvR 2 k n s).1 (cvR 2 k n s).2.1 (cvR 2 k n s).2.2.data.toList = 0 ∧ ((cvR 2 k n s).1 = 2 ∨ (cvR 2 k n s).1 = 4) := by
  unfold cvR
  split
  · rename_i h0
    split
    · rename_i h1; exact ⟨h0, h1⟩
    · rw [if_neg (by omega), if_pos rfl]
      rcases tr_sort k n s with a | a | a <;> rw [a]
      · exact ⟨vE_err (n := 2) (by omega), .inr rfl⟩
      · exact ⟨vE_bool (.inr rfl), .inl rfl⟩
      · exact ⟨vE_bool (.inl rfl), .inl rfl⟩
  · exact ⟨vE_err (n := 2) (by omega), .inr rfl⟩
/-- A value of the kind, or an error, stays as it is. -/
theorem cv_same {kd k : Nat} {n : Int} {s : ByteArray} (h : vE k n s.data.toList = 0) (hk : k = kd ∨ k = 4) : cvR kd k n s = (k, n, s) := by
  unfold cvR; rw [if_pos h, if_pos hk]
theorem chk_fmt {n : Int} (hi : InI n) : chk (Tx.fmtL n) = 0 := by
  have hl := Tx.fmt_len n
  have hd : (Lib.decDigits (n.natAbs / 10000)).length ≤ 20 := Tx.dd_len (by unfold InI at hi; omega)
  have hf := Tx.frac_le (n.natAbs % 10000)
  have hlen : ¬ 256 < (Tx.fmtL n).length := by
    rw [hl]; split <;> omega
  have dg : ∀ c : UInt8, Tx.isDg c = true → 32 ≤ c.toNat ∧ c.toNat ≤ 126 := fun c h => by
    unfold Tx.isDg at h
    have := of_decide_eq_true h
    omega
  have hp : plain (Tx.fmtL n) = true := by
    unfold plain
    rw [List.all_eq_true]
    intro c hc
    have key : 32 ≤ c.toNat ∧ c.toNat ≤ 126 := by
      unfold Tx.fmtL at hc
      rcases List.mem_append.1 hc with h | h
      · split at h
        · have : c = 45 := by simpa using h
          subst this; decide
        · cases h
      · rcases List.mem_append.1 h with h | h
        · exact dg c (Tx.dd_dg _ c h)
        · unfold Tx.fracL at h
          split at h
          · cases h
          · rcases List.mem_cons.1 h with h | h
            · subst h; decide
            · exact dg c (Tx.trimZ_dg (Tx.frD_dg _) c h)
    simp [key.1, key.2]
  unfold chk
  rw [if_neg hlen, if_pos hp]
/-- A text, or an error. -/
theorem cv3_ok (k : Nat) (n : Int) (s : ByteArray) (hi : InI n) : vE (cvR 3 k n s).1 (cvR 3 k n s).2.1 (cvR 3 k n s).2.2.data.toList = 0 ∧ ((cvR 3 k n s).1 = 3 ∨ (cvR 3 k n s).1 = 4) := by
  have tx : ∀ l : List UInt8, chk l = 0 → vE 3 0 l = 0 := fun l h => by unfold vE vldV; simp [h]
  unfold cvR
  split
  · rename_i h0
    split
    · rename_i h1; exact ⟨h0, h1⟩
    · rw [if_neg (by omega), if_neg (by omega)]
      refine ⟨?_, .inl rfl⟩
      split
      · exact tx _ (by show chk (Tx.fmtL n).toArray.toList = 0; rw [List.toList_toArray]; exact chk_fmt hi)
      · split
        · split
          · exact tx _ (by decide)
          · exact tx _ (by decide)
        · exact tx _ (by decide)
  · exact ⟨vE_err (n := 2) (by omega), .inr rfl⟩
/-- An error stays what it is, whatever it is converted to. -/
theorem cv_error {kd : Nat} {n : Int} {s : ByteArray} (h : vE 4 n s.data.toList = 0) : cvR kd 4 n s = (4, n, s) := cv_same h (.inr rfl)
/-- A number through its text, and back. -/
theorem most_of {n : Int} (hi : InI n) (h : n ≠ leastI) : -9223372036854775807 ≤ n ∧ n ≤ 9223372036854775807 := by unfold InI leastI at *; omega
end Go.Proofs.YtdanbabamcdebaaGreatDoor.Va
/- The arithmetic of conversions there and back. -/
namespace Go.Proofs.YtdanbabamcdebaaGreatDoor.Va
open Go Go.RowKit GM
theorem tr_plain : ∀ (l : List UInt8) (e : Bool), (∀ c ∈ l, c ≠ 32) → tr e false l = l := by
  intro l
  induction l with
  | nil => intro e _; rfl
  | cons c l ih =>
    intro e h
    have h1 := h c (List.mem_cons_self)
    unfold tr
    rw [if_neg h1]
    simp [ih true fun d hd => h d (List.mem_cons_of_mem _ hd)]
theorem dg_ne {c : UInt8} (h : Tx.isDg c = true) : c ≠ 32 := fun e => by subst e; exact absurd h (by decide)
theorem fmt_ne (n : Int) : ∀ c ∈ Tx.fmtL n, c ≠ 32 := by
  intro c hc
  unfold Tx.fmtL at hc
  rcases List.mem_append.1 hc with h | h
  · split at h
    · have : c = 45 := by simpa using h
      subst this; decide
    · cases h
  · rcases List.mem_append.1 h with h | h
    · exact dg_ne (Tx.dd_dg _ c h)
    · unfold Tx.fracL at h
      split at h
      · cases h
      · rcases List.mem_cons.1 h with h | h
        · subst h; decide
        · exact dg_ne (Tx.trimZ_dg (Tx.frD_dg _) c h)
theorem trim_fmt (n : Int) : trim (Tx.fmtL n) = Tx.fmtL n := tr_plain _ false (fmt_ne n)
/-- The text of a number. -/
theorem cv3_num {n : Int} (h : n ≠ leastI) : cvR 3 1 n ⟨#[]⟩ = (3, 0, ⟨(Tx.fmtL n).toArray⟩) := by
  unfold cvR
  rw [if_pos (show vE 1 n (⟨#[]⟩ : ByteArray).data.toList = 0 from vE_num h), if_neg (by omega), if_neg (by omega), if_neg (by omega), if_pos rfl]
theorem vE_text {l : List UInt8} (h : chk l = 0) : vE 3 0 l = 0 := by unfold vE vldV; simp [h]
/-- A number through its text, and back. -/
theorem cv_back {n : Int} (hi : InI n) (h : n ≠ leastI) : cvR 1 3 0 ⟨(Tx.fmtL n).toArray⟩ = (1, n, ⟨#[]⟩) := by
  have hv : vE 3 0 (⟨(Tx.fmtL n).toArray⟩ : ByteArray).data.toList = 0 := by
    show vE 3 0 (Tx.fmtL n).toArray.toList = 0
    rw [List.toList_toArray]; exact vE_text (chk_fmt hi)
  have hn : nbR 3 0 ⟨(Tx.fmtL n).toArray⟩ = (1, n) := by
    have hp := Tx.par_fmt (a := n) (by unfold Tx.mostI InI leastI at *; omega) (by unfold Tx.mostI InI leastI at *; omega)
    unfold nbR
    rw [if_pos rfl]
    show (if Tx.parE (trim (Tx.fmtL n).toArray.toList) = 0 then _ else _) = _
    rw [List.toList_toArray, trim_fmt, if_pos hp.2]
    rw [hp.1]
    rcases mk_sort n with ⟨a, _⟩ | ⟨a, b, _⟩
    · unfold mkK at a; rw [if_neg h] at a; cases a
    · rw [a, b]
  unfold cvR
  rw [if_pos hv, if_neg (by omega), if_pos rfl, hn]
/-- A bool through its number, and back; through its text, and back. -/
theorem cv1_bool {b : Int} (h : b = 0 ∨ b = 1) : cvR 1 2 b ⟨#[]⟩ = (1, b * 10000, ⟨#[]⟩) := by
  rcases h with rfl | rfl <;> decide
theorem cv2_back {b : Int} (h : b = 0 ∨ b = 1) : cvR 2 1 (b * 10000) ⟨#[]⟩ = (2, b, ⟨#[]⟩) := by
  rcases h with rfl | rfl <;> decide
theorem cv3_true : cvR 3 2 1 ⟨#[]⟩ = (3, 0, ⟨#[84, 82, 85, 69]⟩) := by decide
theorem cv3_false : cvR 3 2 0 ⟨#[]⟩ = (3, 0, ⟨#[70, 65, 76, 83, 69]⟩) := by decide
theorem cv2_true : cvR 2 3 0 ⟨#[84, 82, 85, 69]⟩ = (2, 1, ⟨#[]⟩) := by decide
theorem cv2_false : cvR 2 3 0 ⟨#[70, 65, 76, 83, 69]⟩ = (2, 0, ⟨#[]⟩) := by decide
end Go.Proofs.YtdanbabamcdebaaGreatDoor.Va
