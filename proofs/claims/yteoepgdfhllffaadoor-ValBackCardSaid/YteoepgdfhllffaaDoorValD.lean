/- The contracts of the methods that convert: truth, number, text. -/
import Derived.Test.YteoepgdfhllffaaDoorValB
namespace Go.Proofs.YteoepgdfhllffaaDoor.Va
open Go Go.RowKit GM
def Cn (w : World) (p : Nat) (k : Nat) (n : Int) (s : ByteArray) : Prop := w.heap[p]? = some (.cells #[.int .u8 (k : Int), .int .i64 n, .string s] 92)
theorem Cn.lt {w : World} {p k : Nat} {n : Int} {s : ByteArray} (h : Cn w p k n s) : p < w.heap.size := (Array.getElem?_eq_some_iff.1 h).1
theorem Cn.later {w w' : World} {p k : Nat} {n : Int} {s : ByteArray} (h : Cn w p k n s) (hB : Below w.heap.size w w') : Cn w' p k n s := (hB.block p h.lt).trans h
theorem Cn.cells {w : World} {p k : Nat} {n : Int} {s : ByteArray} (h : Cn w p k n s) : w.cell? ⟨p, 0, none⟩ = some (.int .u8 (k : Int)) ∧ w.cell? ⟨p, 1, none⟩ = some (.int .i64 n) ∧ w.cell? ⟨p, 2, none⟩ = some (.string s) := by
  unfold Cn at h
  exact ⟨by simp [World.cell?, h], by simp [World.cell?, h], by simp [World.cell?, h]⟩
theorem cont_start (w : World) (k : Nat) (n : Int) (s : ByteArray) : Cn ((w.alloc (.cells #[.int .u8 (k : Int), .int .i64 n, .string s] 92)).alloc (.cells #[.int .u8 0, .int .i64 0, .string ⟨#[]⟩] 29)) w.heap.size k n s ∧ B3 ((w.alloc (.cells #[.int .u8 (k : Int), .int .i64 n, .string s] 92)).alloc (.cells #[.int .u8 0, .int .i64 0, .string ⟨#[]⟩] 29)) (w.heap.size + 1) 0 0 ⟨#[]⟩ ∧ Below w.heap.size w ((w.alloc (.cells #[.int .u8 (k : Int), .int .i64 n, .string s] 92)).alloc (.cells #[.int .u8 0, .int .i64 0, .string ⟨#[]⟩] 29)) := by
  refine ⟨?_, ?_, vnext (valloc _ _) (valloc _ _)⟩
  · exact ((valloc (w.alloc (.cells #[.int .u8 (k : Int), .int .i64 n, .string s] 92)) (.cells #[.int .u8 0, .int .i64 0, .string ⟨#[]⟩] 29)).block w.heap.size (by simp)).trans (World.alloc_heap_new _ _)
  · have := B3.start (w.alloc (.cells #[.int .u8 (k : Int), .int .i64 n, .string s] 92)) 0 0 ⟨#[]⟩
    rwa [World.size_alloc] at this
theorem ba_ne {a : ByteArray} {l : List UInt8} (h : a ≠ ⟨l.toArray⟩) : (a.toList == l) = false := by
  apply Bool.eq_false_iff.2
  intro e
  apply h
  have e := eq_of_beq e
  rw [ByteArray.toList_eq] at e
  exact ByteArray.ext (Array.toList_inj.1 (by simp [e]))
theorem tr_le (e p : Bool) (l : List UInt8) : (tr e p l).length ≤ l.length + (if p then 1 else 0) := by
  induction l generalizing e p with
  | nil => simp [tr]
  | cons c l ih =>
    have h1 : (tr true false l).length ≤ l.length := by simpa using ih true false
    have h2 : (tr e true l).length ≤ l.length + 1 := by simpa using ih e true
    clear ih
    unfold tr
    split
    · simp only [List.length_cons]; omega
    · cases e <;> cases p <;> simp <;> omega
theorem trim_le (l : List UInt8) : (trim l).length ≤ l.length := by
  have := tr_le false false l
  simpa [trim] using this
def trR (k : Nat) (n : Int) (s : ByteArray) : Nat × Int := if k = 3 then (if upS s = ⟨#[84, 82, 85, 69]⟩ then (2, 1) else if upS s = ⟨#[70, 65, 76, 83, 69]⟩ then (2, 0) else (4, 2)) else (2, if n = 0 then 0 else 1)
theorem truth_m_z (k : Nat) (n : Int) (s : ByteArray) (hk : k ≠ 3) (hn : n = 0) (w : World) : Calls Tryd.prog 78 #[.agg #[.int .u8 (k : Int), .int .i64 n, .string s]] w fun e w' => e = .returned (.agg #[.int .u8 ((trR k n s).1 : Int), .int .i64 (trR k n s).2, .string ⟨#[]⟩]) ∧ Below w.heap.size w w' := by
  have H : Hid (trR k n s = (2, 0)) := by unfold Hid trR; rw [if_neg hk]; simp [hn]
  have hk2 : ((k : Int) == 3) = false := by simp; omega
  have hn2 : (n == 0) = true := by simp [hn]
  generalize trR k n s = r at *
  clear hk hn
  have HS := Lib.hid (cont_start w k n s)
  go_enter Tryd.func78, Tryd.ntmps78
  go_wp2_with fail
  generalize (w.alloc (.cells #[.int .u8 (k : Int), .int .i64 n, .string s] 92)).alloc (.cells #[.int .u8 0, .int .i64 0, .string ⟨#[]⟩] 29) = wa at *
  obtain ⟨hC, hX0, hB0⟩ := HS.out
  have HC := Lib.hid hC
  have HX := Lib.hid hX0
  have HBB := Lib.hid hB0
  clear HS hC hX0 hB0
  refine (truth_any _ _).mono ?_
  rw [show (n != 0) = false by simpa using hn2, show b2i false = 0 from rfl]
  rintro e w1 ⟨rfl, hB⟩
  have hX : B3 w1 (w.heap.size + 1) 0 0 ⟨#[]⟩ := HX.out.later hB
  have HBW := Lib.hid (vnext HBB.out hB)
  clear hB
  obtain ⟨x0, x1, x2, z0, z1, z2⟩ := hX.cells
  have hXl := hX.lt
  have hq : B3 (((w1.setCell ⟨(w.heap.size + 1), 0, none⟩ (.int .u8 2)).setCell ⟨(w.heap.size + 1), 1, none⟩ (.int .i64 0)).setCell ⟨(w.heap.size + 1), 2, none⟩ (.string ⟨#[]⟩)) (w.heap.size + 1) 2 0 ⟨#[]⟩ ∧ w1.grownBy (((w1.setCell ⟨(w.heap.size + 1), 0, none⟩ (.int .u8 2)).setCell ⟨(w.heap.size + 1), 1, none⟩ (.int .i64 0)).setCell ⟨(w.heap.size + 1), 2, none⟩ (.string ⟨#[]⟩)) (some ((w.heap.size + 1))) := hX.set 2 0 ⟨#[]⟩
  have hb5 := HBW.out.grown hq.2 HBW.out.size (fun q hq => by injection hq with hq; omega)
  obtain ⟨hq, _⟩ := hq
  go_wp2_with fail
  generalize ((w1.setCell ⟨(w.heap.size + 1), 0, none⟩ (.int .u8 2)).setCell ⟨(w.heap.size + 1), 1, none⟩ (.int .i64 0)).setCell ⟨(w.heap.size + 1), 2, none⟩ (.string ⟨#[]⟩) = w5 at *
  obtain ⟨y0, y1, y2, _, _, _⟩ := hq.cells
  refine bodyPost_ret (v := .agg #[.int .u8 2, .int .i64 0, .string ⟨#[]⟩]) (by simp [results, Tryd.results78, go_sem, y0, y1, y2]) rfl ⟨by rw [H.out]; rfl, hb5⟩
theorem truth_m_o (k : Nat) (n : Int) (s : ByteArray) (hk : k ≠ 3) (hn : n ≠ 0) (w : World) : Calls Tryd.prog 78 #[.agg #[.int .u8 (k : Int), .int .i64 n, .string s]] w fun e w' => e = .returned (.agg #[.int .u8 ((trR k n s).1 : Int), .int .i64 (trR k n s).2, .string ⟨#[]⟩]) ∧ Below w.heap.size w w' := by
  have H : Hid (trR k n s = (2, 1)) := by unfold Hid trR; rw [if_neg hk]; simp [hn]
  have hk2 : ((k : Int) == 3) = false := by simp; omega
  have hn2 : (n == 0) = false := by simp [hn]
  generalize trR k n s = r at *
  clear hk hn
  have HS := Lib.hid (cont_start w k n s)
  go_enter Tryd.func78, Tryd.ntmps78
  go_wp2_with fail
  generalize (w.alloc (.cells #[.int .u8 (k : Int), .int .i64 n, .string s] 92)).alloc (.cells #[.int .u8 0, .int .i64 0, .string ⟨#[]⟩] 29) = wa at *
  obtain ⟨hC, hX0, hB0⟩ := HS.out
  have HC := Lib.hid hC
  have HX := Lib.hid hX0
  have HBB := Lib.hid hB0
  clear HS hC hX0 hB0
  refine (truth_any _ _).mono ?_
  rw [show (n != 0) = true by simpa using hn2, show b2i true = 1 from rfl]
  rintro e w1 ⟨rfl, hB⟩
  have hX : B3 w1 (w.heap.size + 1) 0 0 ⟨#[]⟩ := HX.out.later hB
  have HBW := Lib.hid (vnext HBB.out hB)
  clear hB
  obtain ⟨x0, x1, x2, z0, z1, z2⟩ := hX.cells
  have hXl := hX.lt
  have hq : B3 (((w1.setCell ⟨(w.heap.size + 1), 0, none⟩ (.int .u8 2)).setCell ⟨(w.heap.size + 1), 1, none⟩ (.int .i64 1)).setCell ⟨(w.heap.size + 1), 2, none⟩ (.string ⟨#[]⟩)) (w.heap.size + 1) 2 1 ⟨#[]⟩ ∧ w1.grownBy (((w1.setCell ⟨(w.heap.size + 1), 0, none⟩ (.int .u8 2)).setCell ⟨(w.heap.size + 1), 1, none⟩ (.int .i64 1)).setCell ⟨(w.heap.size + 1), 2, none⟩ (.string ⟨#[]⟩)) (some ((w.heap.size + 1))) := hX.set 2 1 ⟨#[]⟩
  have hb5 := HBW.out.grown hq.2 HBW.out.size (fun q hq => by injection hq with hq; omega)
  obtain ⟨hq, _⟩ := hq
  go_wp2_with fail
  generalize ((w1.setCell ⟨(w.heap.size + 1), 0, none⟩ (.int .u8 2)).setCell ⟨(w.heap.size + 1), 1, none⟩ (.int .i64 1)).setCell ⟨(w.heap.size + 1), 2, none⟩ (.string ⟨#[]⟩) = w5 at *
  obtain ⟨y0, y1, y2, _, _, _⟩ := hq.cells
  refine bodyPost_ret (v := .agg #[.int .u8 2, .int .i64 1, .string ⟨#[]⟩]) (by simp [results, Tryd.results78, go_sem, y0, y1, y2]) rfl ⟨by rw [H.out]; rfl, hb5⟩
theorem truth_m_t (k : Nat) (n : Int) (s : ByteArray) (hs : s.size ≤ maxLen) (hk : k = 3) (hu : upS s = ⟨#[84, 82, 85, 69]⟩) (w : World) : Calls Tryd.prog 78 #[.agg #[.int .u8 (k : Int), .int .i64 n, .string s]] w fun e w' => e = .returned (.agg #[.int .u8 ((trR k n s).1 : Int), .int .i64 (trR k n s).2, .string ⟨#[]⟩]) ∧ Below w.heap.size w w' := by
  have H : Hid (trR k n s = (2, 1)) := by unfold Hid trR; rw [if_pos hk, if_pos hu]
  generalize trR k n s = r at *
  have hk2 : ((k : Int) == 3) = true := by subst hk; rfl
  clear hk
  have HS := Lib.hid (cont_start w k n s)
  go_enter Tryd.func78, Tryd.ntmps78
  go_wp2_with fail
  generalize (w.alloc (.cells #[.int .u8 (k : Int), .int .i64 n, .string s] 92)).alloc (.cells #[.int .u8 0, .int .i64 0, .string ⟨#[]⟩] 29) = wa at *
  obtain ⟨hC, hX0, hB0⟩ := HS.out
  have HC := Lib.hid hC
  have HX := Lib.hid hX0
  have HBB := Lib.hid hB0
  clear HS hC hX0 hB0
  refine (upper_any s hs _).mono ?_
  rw [hu]
  clear hu
  rintro e wu ⟨rfl, hB⟩
  replace HX := Lib.hid (HX.out.later hB)
  replace HBB := Lib.hid (vnext HBB.out hB)
  clear hB
  go_wp2_with fail
  refine (truth_any _ _).mono ?_
  rw [show b2i true = 1 from rfl]
  rintro e w1 ⟨rfl, hB⟩
  have hX : B3 w1 (w.heap.size + 1) 0 0 ⟨#[]⟩ := HX.out.later hB
  have HBW := Lib.hid (vnext HBB.out hB)
  clear hB
  obtain ⟨x0, x1, x2, z0, z1, z2⟩ := hX.cells
  have hXl := hX.lt
  have hq : B3 (((w1.setCell ⟨(w.heap.size + 1), 0, none⟩ (.int .u8 2)).setCell ⟨(w.heap.size + 1), 1, none⟩ (.int .i64 1)).setCell ⟨(w.heap.size + 1), 2, none⟩ (.string ⟨#[]⟩)) (w.heap.size + 1) 2 1 ⟨#[]⟩ ∧ w1.grownBy (((w1.setCell ⟨(w.heap.size + 1), 0, none⟩ (.int .u8 2)).setCell ⟨(w.heap.size + 1), 1, none⟩ (.int .i64 1)).setCell ⟨(w.heap.size + 1), 2, none⟩ (.string ⟨#[]⟩)) (some ((w.heap.size + 1))) := hX.set 2 1 ⟨#[]⟩
  have hb5 := HBW.out.grown hq.2 HBW.out.size (fun q hq => by injection hq with hq; omega)
  obtain ⟨hq, _⟩ := hq
  go_wp2_with fail
  generalize ((w1.setCell ⟨(w.heap.size + 1), 0, none⟩ (.int .u8 2)).setCell ⟨(w.heap.size + 1), 1, none⟩ (.int .i64 1)).setCell ⟨(w.heap.size + 1), 2, none⟩ (.string ⟨#[]⟩) = w5 at *
  obtain ⟨y0, y1, y2, _, _, _⟩ := hq.cells
  refine bodyPost_ret (v := .agg #[.int .u8 2, .int .i64 1, .string ⟨#[]⟩]) (by simp [results, Tryd.results78, go_sem, y0, y1, y2]) rfl ⟨by rw [H.out]; rfl, hb5⟩
theorem truth_m_f (k : Nat) (n : Int) (s : ByteArray) (hs : s.size ≤ maxLen) (hk : k = 3) (hu : upS s = ⟨#[70, 65, 76, 83, 69]⟩) (w : World) : Calls Tryd.prog 78 #[.agg #[.int .u8 (k : Int), .int .i64 n, .string s]] w fun e w' => e = .returned (.agg #[.int .u8 ((trR k n s).1 : Int), .int .i64 (trR k n s).2, .string ⟨#[]⟩]) ∧ Below w.heap.size w w' := by
  have H : Hid (trR k n s = (2, 0)) := by unfold Hid trR; rw [if_pos hk, if_neg (by rw [hu]; decide), if_pos hu]
  generalize trR k n s = r at *
  have hk2 : ((k : Int) == 3) = true := by subst hk; rfl
  clear hk
  have HS := Lib.hid (cont_start w k n s)
  go_enter Tryd.func78, Tryd.ntmps78
  go_wp2_with fail
  generalize (w.alloc (.cells #[.int .u8 (k : Int), .int .i64 n, .string s] 92)).alloc (.cells #[.int .u8 0, .int .i64 0, .string ⟨#[]⟩] 29) = wa at *
  obtain ⟨hC, hX0, hB0⟩ := HS.out
  have HC := Lib.hid hC
  have HX := Lib.hid hX0
  have HBB := Lib.hid hB0
  clear HS hC hX0 hB0
  refine (upper_any s hs _).mono ?_
  rw [hu]
  clear hu
  rintro e wu ⟨rfl, hB⟩
  replace HX := Lib.hid (HX.out.later hB)
  replace HBB := Lib.hid (vnext HBB.out hB)
  clear hB
  go_wp2_with fail
  refine (truth_any _ _).mono ?_
  rw [show b2i false = 0 from rfl]
  rintro e w1 ⟨rfl, hB⟩
  have hX : B3 w1 (w.heap.size + 1) 0 0 ⟨#[]⟩ := HX.out.later hB
  have HBW := Lib.hid (vnext HBB.out hB)
  clear hB
  obtain ⟨x0, x1, x2, z0, z1, z2⟩ := hX.cells
  have hXl := hX.lt
  have hq : B3 (((w1.setCell ⟨(w.heap.size + 1), 0, none⟩ (.int .u8 2)).setCell ⟨(w.heap.size + 1), 1, none⟩ (.int .i64 0)).setCell ⟨(w.heap.size + 1), 2, none⟩ (.string ⟨#[]⟩)) (w.heap.size + 1) 2 0 ⟨#[]⟩ ∧ w1.grownBy (((w1.setCell ⟨(w.heap.size + 1), 0, none⟩ (.int .u8 2)).setCell ⟨(w.heap.size + 1), 1, none⟩ (.int .i64 0)).setCell ⟨(w.heap.size + 1), 2, none⟩ (.string ⟨#[]⟩)) (some ((w.heap.size + 1))) := hX.set 2 0 ⟨#[]⟩
  have hb5 := HBW.out.grown hq.2 HBW.out.size (fun q hq => by injection hq with hq; omega)
  obtain ⟨hq, _⟩ := hq
  go_wp2_with fail
  generalize ((w1.setCell ⟨(w.heap.size + 1), 0, none⟩ (.int .u8 2)).setCell ⟨(w.heap.size + 1), 1, none⟩ (.int .i64 0)).setCell ⟨(w.heap.size + 1), 2, none⟩ (.string ⟨#[]⟩) = w5 at *
  obtain ⟨y0, y1, y2, _, _, _⟩ := hq.cells
  refine bodyPost_ret (v := .agg #[.int .u8 2, .int .i64 0, .string ⟨#[]⟩]) (by simp [results, Tryd.results78, go_sem, y0, y1, y2]) rfl ⟨by rw [H.out]; rfl, hb5⟩
theorem truth_m_e (k : Nat) (n : Int) (s : ByteArray) (hs : s.size ≤ maxLen) (hk : k = 3) (h1 : upS s ≠ ⟨#[84, 82, 85, 69]⟩) (h2 : upS s ≠ ⟨#[70, 65, 76, 83, 69]⟩) (w : World) : Calls Tryd.prog 78 #[.agg #[.int .u8 (k : Int), .int .i64 n, .string s]] w fun e w' => e = .returned (.agg #[.int .u8 ((trR k n s).1 : Int), .int .i64 (trR k n s).2, .string ⟨#[]⟩]) ∧ Below w.heap.size w w' := by
  have H : Hid (trR k n s = (4, 2)) := by unfold Hid trR; rw [if_pos hk, if_neg h1, if_neg h2]
  generalize trR k n s = r at *
  have hk2 : ((k : Int) == 3) = true := by subst hk; rfl
  clear hk
  have HS := Lib.hid (cont_start w k n s)
  go_enter Tryd.func78, Tryd.ntmps78
  go_wp2_with fail
  generalize (w.alloc (.cells #[.int .u8 (k : Int), .int .i64 n, .string s] 92)).alloc (.cells #[.int .u8 0, .int .i64 0, .string ⟨#[]⟩] 29) = wa at *
  obtain ⟨hC, hX0, hB0⟩ := HS.out
  have HC := Lib.hid hC
  have HX := Lib.hid hX0
  have HBB := Lib.hid hB0
  clear HS hC hX0 hB0
  refine (upper_any s hs _).mono ?_
  have g1 := ba_ne (l := [84, 82, 85, 69]) h1
  have g2 := ba_ne (l := [70, 65, 76, 83, 69]) h2
  clear h1 h2
  rintro e wu ⟨rfl, hB⟩
  replace HX := Lib.hid (HX.out.later hB)
  replace HBB := Lib.hid (vnext HBB.out hB)
  clear hB
  go_wp2_with fail
  refine (fail_any 2 _).mono ?_
  rw [show flN 2 = 2 from rfl]
  rintro e w1 ⟨rfl, hB⟩
  have hX : B3 w1 (w.heap.size + 1) 0 0 ⟨#[]⟩ := HX.out.later hB
  have HBW := Lib.hid (vnext HBB.out hB)
  clear hB
  obtain ⟨x0, x1, x2, z0, z1, z2⟩ := hX.cells
  have hXl := hX.lt
  have hq : B3 (((w1.setCell ⟨(w.heap.size + 1), 0, none⟩ (.int .u8 4)).setCell ⟨(w.heap.size + 1), 1, none⟩ (.int .i64 2)).setCell ⟨(w.heap.size + 1), 2, none⟩ (.string ⟨#[]⟩)) (w.heap.size + 1) 4 2 ⟨#[]⟩ ∧ w1.grownBy (((w1.setCell ⟨(w.heap.size + 1), 0, none⟩ (.int .u8 4)).setCell ⟨(w.heap.size + 1), 1, none⟩ (.int .i64 2)).setCell ⟨(w.heap.size + 1), 2, none⟩ (.string ⟨#[]⟩)) (some ((w.heap.size + 1))) := hX.set 4 2 ⟨#[]⟩
  have hb5 := HBW.out.grown hq.2 HBW.out.size (fun q hq => by injection hq with hq; omega)
  obtain ⟨hq, _⟩ := hq
  go_wp2_with fail
  generalize ((w1.setCell ⟨(w.heap.size + 1), 0, none⟩ (.int .u8 4)).setCell ⟨(w.heap.size + 1), 1, none⟩ (.int .i64 2)).setCell ⟨(w.heap.size + 1), 2, none⟩ (.string ⟨#[]⟩) = w5 at *
  obtain ⟨y0, y1, y2, _, _, _⟩ := hq.cells
  refine bodyPost_ret (v := .agg #[.int .u8 4, .int .i64 2, .string ⟨#[]⟩]) (by simp [results, Tryd.results78, go_sem, y0, y1, y2]) rfl ⟨by rw [H.out]; rfl, hb5⟩
theorem truth_m (k : Nat) (n : Int) (s : ByteArray) (hs : s.size ≤ maxLen) (w : World) : Calls Tryd.prog 78 #[.agg #[.int .u8 (k : Int), .int .i64 n, .string s]] w fun e w' => e = .returned (.agg #[.int .u8 ((trR k n s).1 : Int), .int .i64 (trR k n s).2, .string ⟨#[]⟩]) ∧ Below w.heap.size w w' := by
  by_cases hk : k = 3
  · by_cases hu : upS s = ⟨#[84, 82, 85, 69]⟩
    · exact truth_m_t k n s hs hk hu w
    · by_cases hf : upS s = ⟨#[70, 65, 76, 83, 69]⟩
      · exact truth_m_f k n s hs hk hf w
      · exact truth_m_e k n s hs hk hu hf w
  · by_cases hn : n = 0
    · exact truth_m_z k n s hk hn w
    · exact truth_m_o k n s hk hn w
def nbR (k : Nat) (n : Int) (s : ByteArray) : Nat × Int := if k = 3 then (if Tx.parE (trim s.data.toList) = 0 then (mkK (Tx.parV (trim s.data.toList)), mkN (Tx.parV (trim s.data.toList))) else if Tx.parE (trim s.data.toList) = 3 then (4, 3) else (4, 2)) else (mkK (n * 10000), mkN (n * 10000))
set_option maxHeartbeats 1600000 in
theorem number_m_n (k : Nat) (n : Int) (s : ByteArray) (hk : k ≠ 3) (h1 : -9223372036854775808 ≤ n * 10000) (h2 : n * 10000 ≤ 9223372036854775807) (w : World) : Calls Tryd.prog 76 #[.agg #[.int .u8 (k : Int), .int .i64 n, .string s]] w fun e w' => e = .returned (.agg #[.int .u8 ((nbR k n s).1 : Int), .int .i64 (nbR k n s).2, .string ⟨#[]⟩]) ∧ Below w.heap.size w w' := by
  have H : Hid (nbR k n s = (mkK (n * 10000), mkN (n * 10000))) := by unfold Hid nbR; rw [if_neg hk]
  have hk2 : ((k : Int) == 3) = false := by simp; omega
  have hw : IntKind.i64.wrap (n * 10000) = n * 10000 := IntWalk.i64_in _ (by omega)
  generalize nbR k n s = r at *
  clear hk
  have HS := Lib.hid (cont_start w k n s)
  go_enter Tryd.func76, Tryd.ntmps76
  go_wp2_with fail
  generalize (w.alloc (.cells #[.int .u8 (k : Int), .int .i64 n, .string s] 92)).alloc (.cells #[.int .u8 0, .int .i64 0, .string ⟨#[]⟩] 29) = wa at *
  obtain ⟨hC, hX0, hB0⟩ := HS.out
  have HC := Lib.hid hC
  have HX := Lib.hid hX0
  have HBB := Lib.hid hB0
  clear HS hC hX0 hB0
  have HM := Lib.hid (make_any (n * 10000))
  generalize mkK (n * 10000) = kk at *
  generalize mkN (n * 10000) = nn at *
  refine (HM.out _).mono ?_
  rintro e w1 ⟨rfl, hB⟩
  have hX : B3 w1 (w.heap.size + 1) 0 0 ⟨#[]⟩ := HX.out.later hB
  have HBW := Lib.hid (vnext HBB.out hB)
  clear hB
  obtain ⟨x0, x1, x2, z0, z1, z2⟩ := hX.cells
  have hXl := hX.lt
  have hq : B3 (((w1.setCell ⟨(w.heap.size + 1), 0, none⟩ (.int .u8 (kk : Int))).setCell ⟨(w.heap.size + 1), 1, none⟩ (.int .i64 nn)).setCell ⟨(w.heap.size + 1), 2, none⟩ (.string ⟨#[]⟩)) (w.heap.size + 1) kk nn ⟨#[]⟩ ∧ w1.grownBy (((w1.setCell ⟨(w.heap.size + 1), 0, none⟩ (.int .u8 (kk : Int))).setCell ⟨(w.heap.size + 1), 1, none⟩ (.int .i64 nn)).setCell ⟨(w.heap.size + 1), 2, none⟩ (.string ⟨#[]⟩)) (some ((w.heap.size + 1))) := hX.set kk nn ⟨#[]⟩
  have hb5 := HBW.out.grown hq.2 HBW.out.size (fun q hq => by injection hq with hq; omega)
  obtain ⟨hq, _⟩ := hq
  go_wp2_with fail
  generalize ((w1.setCell ⟨(w.heap.size + 1), 0, none⟩ (.int .u8 (kk : Int))).setCell ⟨(w.heap.size + 1), 1, none⟩ (.int .i64 nn)).setCell ⟨(w.heap.size + 1), 2, none⟩ (.string ⟨#[]⟩) = w5 at *
  obtain ⟨y0, y1, y2, _, _, _⟩ := hq.cells
  refine bodyPost_ret (v := .agg #[.int .u8 (kk : Int), .int .i64 nn, .string ⟨#[]⟩]) (by simp [results, Tryd.results76, go_sem, y0, y1, y2]) rfl ⟨by rw [H.out], hb5⟩
set_option maxHeartbeats 1600000 in
theorem number_m_p (k : Nat) (n : Int) (s : ByteArray) (hs : s.size ≤ 2000) (hk : k = 3) (he : Tx.parE (trim s.data.toList) = 0) (w : World) : Calls Tryd.prog 76 #[.agg #[.int .u8 (k : Int), .int .i64 n, .string s]] w fun e w' => e = .returned (.agg #[.int .u8 ((nbR k n s).1 : Int), .int .i64 (nbR k n s).2, .string ⟨#[]⟩]) ∧ Below w.heap.size w w' := by
  have HP : Hid (∀ W, _) := Lib.hid (Tx.parse_any (str (trim s.data.toList)) (by rw [str_size]; have := trim_le s.data.toList; have : s.data.toList.length = s.size := data_len s; omega))
  rw [str_data] at HP
  have H : Hid (nbR k n s = (mkK (Tx.parV (trim s.data.toList)), mkN (Tx.parV (trim s.data.toList)))) := by unfold Hid nbR; rw [if_pos hk, if_pos he]
  rw [he] at HP
  generalize nbR k n s = r at *
  have hk2 : ((k : Int) == 3) = true := by subst hk; rfl
  clear hk
  have HTR := Lib.hid (trim_any s (by omega))
  generalize Tx.parV (trim s.data.toList) = pv at *
  clear he
  have HS := Lib.hid (cont_start w k n s)
  go_enter Tryd.func76, Tryd.ntmps76
  go_wp2_with fail
  generalize (w.alloc (.cells #[.int .u8 (k : Int), .int .i64 n, .string s] 92)).alloc (.cells #[.int .u8 0, .int .i64 0, .string ⟨#[]⟩] 29) = wa at *
  obtain ⟨hC, hX0, hB0⟩ := HS.out
  have HC := Lib.hid hC
  have HX := Lib.hid hX0
  have HBB := Lib.hid hB0
  clear HS hC hX0 hB0
  refine (HTR.out _).mono ?_
  rintro e wu ⟨rfl, hB⟩
  replace HX := Lib.hid (HX.out.later hB)
  replace HBB := Lib.hid (vnext HBB.out hB)
  clear hB
  go_wp2_with fail
  refine (HP.out _).mono ?_
  rintro e wv ⟨rfl, hB⟩
  replace HX := Lib.hid (HX.out.later hB)
  replace HBB := Lib.hid (vnext HBB.out hB)
  clear hB
  go_wp2_with fail
  have HM := Lib.hid (make_any pv)
  generalize mkK pv = kk at *
  generalize mkN pv = nn at *
  refine (HM.out _).mono ?_
  rintro e w1 ⟨rfl, hB⟩
  have hX : B3 w1 (w.heap.size + 1) 0 0 ⟨#[]⟩ := HX.out.later hB
  have HBW := Lib.hid (vnext HBB.out hB)
  clear hB
  obtain ⟨x0, x1, x2, z0, z1, z2⟩ := hX.cells
  have hXl := hX.lt
  have hq : B3 (((w1.setCell ⟨(w.heap.size + 1), 0, none⟩ (.int .u8 (kk : Int))).setCell ⟨(w.heap.size + 1), 1, none⟩ (.int .i64 nn)).setCell ⟨(w.heap.size + 1), 2, none⟩ (.string ⟨#[]⟩)) (w.heap.size + 1) kk nn ⟨#[]⟩ ∧ w1.grownBy (((w1.setCell ⟨(w.heap.size + 1), 0, none⟩ (.int .u8 (kk : Int))).setCell ⟨(w.heap.size + 1), 1, none⟩ (.int .i64 nn)).setCell ⟨(w.heap.size + 1), 2, none⟩ (.string ⟨#[]⟩)) (some ((w.heap.size + 1))) := hX.set kk nn ⟨#[]⟩
  have hb5 := HBW.out.grown hq.2 HBW.out.size (fun q hq => by injection hq with hq; omega)
  obtain ⟨hq, _⟩ := hq
  go_wp2_with fail
  generalize ((w1.setCell ⟨(w.heap.size + 1), 0, none⟩ (.int .u8 (kk : Int))).setCell ⟨(w.heap.size + 1), 1, none⟩ (.int .i64 nn)).setCell ⟨(w.heap.size + 1), 2, none⟩ (.string ⟨#[]⟩) = w5 at *
  obtain ⟨y0, y1, y2, _, _, _⟩ := hq.cells
  refine bodyPost_ret (v := .agg #[.int .u8 (kk : Int), .int .i64 nn, .string ⟨#[]⟩]) (by simp [results, Tryd.results76, go_sem, y0, y1, y2]) rfl ⟨by rw [H.out], hb5⟩
set_option maxHeartbeats 1600000 in
theorem number_m_r (k : Nat) (n : Int) (s : ByteArray) (hs : s.size ≤ 2000) (hk : k = 3) (he : Tx.parE (trim s.data.toList) = 3) (w : World) : Calls Tryd.prog 76 #[.agg #[.int .u8 (k : Int), .int .i64 n, .string s]] w fun e w' => e = .returned (.agg #[.int .u8 ((nbR k n s).1 : Int), .int .i64 (nbR k n s).2, .string ⟨#[]⟩]) ∧ Below w.heap.size w w' := by
  have HP : Hid (∀ W, _) := Lib.hid (Tx.parse_any (str (trim s.data.toList)) (by rw [str_size]; have := trim_le s.data.toList; have : s.data.toList.length = s.size := data_len s; omega))
  rw [str_data] at HP
  have H : Hid (nbR k n s = (4, 3)) := by unfold Hid nbR; rw [if_pos hk, if_neg (by omega), if_pos he]
  rw [he] at HP
  generalize nbR k n s = r at *
  have hk2 : ((k : Int) == 3) = true := by subst hk; rfl
  clear hk
  have HTR := Lib.hid (trim_any s (by omega))
  generalize Tx.parV (trim s.data.toList) = pv at *
  clear he
  have HS := Lib.hid (cont_start w k n s)
  go_enter Tryd.func76, Tryd.ntmps76
  go_wp2_with fail
  generalize (w.alloc (.cells #[.int .u8 (k : Int), .int .i64 n, .string s] 92)).alloc (.cells #[.int .u8 0, .int .i64 0, .string ⟨#[]⟩] 29) = wa at *
  obtain ⟨hC, hX0, hB0⟩ := HS.out
  have HC := Lib.hid hC
  have HX := Lib.hid hX0
  have HBB := Lib.hid hB0
  clear HS hC hX0 hB0
  refine (HTR.out _).mono ?_
  rintro e wu ⟨rfl, hB⟩
  replace HX := Lib.hid (HX.out.later hB)
  replace HBB := Lib.hid (vnext HBB.out hB)
  clear hB
  go_wp2_with fail
  refine (HP.out _).mono ?_
  rintro e wv ⟨rfl, hB⟩
  replace HX := Lib.hid (HX.out.later hB)
  replace HBB := Lib.hid (vnext HBB.out hB)
  clear hB
  go_wp2_with fail
  refine (fail_any 3 _).mono ?_
  rw [show flN 3 = 3 from rfl]
  rintro e w1 ⟨rfl, hB⟩
  have hX : B3 w1 (w.heap.size + 1) 0 0 ⟨#[]⟩ := HX.out.later hB
  have HBW := Lib.hid (vnext HBB.out hB)
  clear hB
  obtain ⟨x0, x1, x2, z0, z1, z2⟩ := hX.cells
  have hXl := hX.lt
  have hq : B3 (((w1.setCell ⟨(w.heap.size + 1), 0, none⟩ (.int .u8 4)).setCell ⟨(w.heap.size + 1), 1, none⟩ (.int .i64 3)).setCell ⟨(w.heap.size + 1), 2, none⟩ (.string ⟨#[]⟩)) (w.heap.size + 1) 4 3 ⟨#[]⟩ ∧ w1.grownBy (((w1.setCell ⟨(w.heap.size + 1), 0, none⟩ (.int .u8 4)).setCell ⟨(w.heap.size + 1), 1, none⟩ (.int .i64 3)).setCell ⟨(w.heap.size + 1), 2, none⟩ (.string ⟨#[]⟩)) (some ((w.heap.size + 1))) := hX.set 4 3 ⟨#[]⟩
  have hb5 := HBW.out.grown hq.2 HBW.out.size (fun q hq => by injection hq with hq; omega)
  obtain ⟨hq, _⟩ := hq
  go_wp2_with fail
  generalize ((w1.setCell ⟨(w.heap.size + 1), 0, none⟩ (.int .u8 4)).setCell ⟨(w.heap.size + 1), 1, none⟩ (.int .i64 3)).setCell ⟨(w.heap.size + 1), 2, none⟩ (.string ⟨#[]⟩) = w5 at *
  obtain ⟨y0, y1, y2, _, _, _⟩ := hq.cells
  refine bodyPost_ret (v := .agg #[.int .u8 4, .int .i64 3, .string ⟨#[]⟩]) (by simp [results, Tryd.results76, go_sem, y0, y1, y2]) rfl ⟨by rw [H.out]; rfl, hb5⟩
set_option maxHeartbeats 1600000 in
theorem number_m_e (k : Nat) (n : Int) (s : ByteArray) (hs : s.size ≤ 2000) (hk : k = 3) (he : Tx.parE (trim s.data.toList) ≠ 0) (he3 : Tx.parE (trim s.data.toList) ≠ 3) (w : World) : Calls Tryd.prog 76 #[.agg #[.int .u8 (k : Int), .int .i64 n, .string s]] w fun e w' => e = .returned (.agg #[.int .u8 ((nbR k n s).1 : Int), .int .i64 (nbR k n s).2, .string ⟨#[]⟩]) ∧ Below w.heap.size w w' := by
  have HP : Hid (∀ W, _) := Lib.hid (Tx.parse_any (str (trim s.data.toList)) (by rw [str_size]; have := trim_le s.data.toList; have : s.data.toList.length = s.size := data_len s; omega))
  rw [str_data] at HP
  have H : Hid (nbR k n s = (4, 2)) := by unfold Hid nbR; rw [if_pos hk, if_neg he, if_neg he3]
  have q0 : (Tx.parE (trim s.data.toList) == 0) = false := by simpa using he
  have q3 : (Tx.parE (trim s.data.toList) == 3) = false := by simpa using he3
  generalize nbR k n s = r at *
  have hk2 : ((k : Int) == 3) = true := by subst hk; rfl
  clear hk
  have HTR := Lib.hid (trim_any s (by omega))
  generalize Tx.parV (trim s.data.toList) = pv at *
  clear he
  clear he3
  generalize Tx.parE (trim s.data.toList) = pe at *
  have HS := Lib.hid (cont_start w k n s)
  go_enter Tryd.func76, Tryd.ntmps76
  go_wp2_with fail
  generalize (w.alloc (.cells #[.int .u8 (k : Int), .int .i64 n, .string s] 92)).alloc (.cells #[.int .u8 0, .int .i64 0, .string ⟨#[]⟩] 29) = wa at *
  obtain ⟨hC, hX0, hB0⟩ := HS.out
  have HC := Lib.hid hC
  have HX := Lib.hid hX0
  have HBB := Lib.hid hB0
  clear HS hC hX0 hB0
  refine (HTR.out _).mono ?_
  rintro e wu ⟨rfl, hB⟩
  replace HX := Lib.hid (HX.out.later hB)
  replace HBB := Lib.hid (vnext HBB.out hB)
  clear hB
  go_wp2_with fail
  refine (HP.out _).mono ?_
  rintro e wv ⟨rfl, hB⟩
  replace HX := Lib.hid (HX.out.later hB)
  replace HBB := Lib.hid (vnext HBB.out hB)
  clear hB
  go_wp2_with fail
  refine (fail_any 2 _).mono ?_
  rw [show flN 2 = 2 from rfl]
  rintro e w1 ⟨rfl, hB⟩
  have hX : B3 w1 (w.heap.size + 1) 0 0 ⟨#[]⟩ := HX.out.later hB
  have HBW := Lib.hid (vnext HBB.out hB)
  clear hB
  obtain ⟨x0, x1, x2, z0, z1, z2⟩ := hX.cells
  have hXl := hX.lt
  have hq : B3 (((w1.setCell ⟨(w.heap.size + 1), 0, none⟩ (.int .u8 4)).setCell ⟨(w.heap.size + 1), 1, none⟩ (.int .i64 2)).setCell ⟨(w.heap.size + 1), 2, none⟩ (.string ⟨#[]⟩)) (w.heap.size + 1) 4 2 ⟨#[]⟩ ∧ w1.grownBy (((w1.setCell ⟨(w.heap.size + 1), 0, none⟩ (.int .u8 4)).setCell ⟨(w.heap.size + 1), 1, none⟩ (.int .i64 2)).setCell ⟨(w.heap.size + 1), 2, none⟩ (.string ⟨#[]⟩)) (some ((w.heap.size + 1))) := hX.set 4 2 ⟨#[]⟩
  have hb5 := HBW.out.grown hq.2 HBW.out.size (fun q hq => by injection hq with hq; omega)
  obtain ⟨hq, _⟩ := hq
  go_wp2_with fail
  generalize ((w1.setCell ⟨(w.heap.size + 1), 0, none⟩ (.int .u8 4)).setCell ⟨(w.heap.size + 1), 1, none⟩ (.int .i64 2)).setCell ⟨(w.heap.size + 1), 2, none⟩ (.string ⟨#[]⟩) = w5 at *
  obtain ⟨y0, y1, y2, _, _, _⟩ := hq.cells
  refine bodyPost_ret (v := .agg #[.int .u8 4, .int .i64 2, .string ⟨#[]⟩]) (by simp [results, Tryd.results76, go_sem, y0, y1, y2]) rfl ⟨by rw [H.out]; rfl, hb5⟩
theorem number_m (k : Nat) (n : Int) (s : ByteArray) (hs : s.size ≤ 2000) (h1 : k ≠ 3 → -9223372036854775808 ≤ n * 10000 ∧ n * 10000 ≤ 9223372036854775807) (w : World) : Calls Tryd.prog 76 #[.agg #[.int .u8 (k : Int), .int .i64 n, .string s]] w fun e w' => e = .returned (.agg #[.int .u8 ((nbR k n s).1 : Int), .int .i64 (nbR k n s).2, .string ⟨#[]⟩]) ∧ Below w.heap.size w w' := by
  by_cases hk : k = 3
  · by_cases he : Tx.parE (trim s.data.toList) = 0
    · exact number_m_p k n s hs hk he w
    · by_cases h3 : Tx.parE (trim s.data.toList) = 3
      · exact number_m_r k n s hs hk h3 w
      · exact number_m_e k n s hs hk he h3 w
  · exact number_m_n k n s hk (h1 hk).1 (h1 hk).2 w
end Go.Proofs.YteoepgdfhllffaaDoor.Va
