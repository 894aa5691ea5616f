/- The contracts of converted, ToNumber, ToText and ToBool. -/
import Derived.Test.YteoepgdfhllffaaDoorValE
namespace Go.Proofs.YteoepgdfhllffaaDoor.Va
open Go Go.RowKit GM
def cvR (kd : Nat) (k : Nat) (n : Int) (s : ByteArray) : Nat × Int × ByteArray :=
  if vE k n s.data.toList = 0 then
    (if k = kd ∨ k = 4 then (k, n, s)
     else if kd = 1 then ((nbR k n s).1, (nbR k n s).2, ⟨#[]⟩)
     else if kd = 2 then ((trR k n s).1, (trR k n s).2, ⟨#[]⟩)
     else (3, 0, if k = 1 then ⟨(Tx.fmtL n).toArray⟩ else if k = 2 then (if n = 1 then ⟨#[84, 82, 85, 69]⟩ else ⟨#[70, 65, 76, 83, 69]⟩) else ⟨#[]⟩))
  else (4, 2, ⟨#[]⟩)
theorem vE_two (k : Nat) (n : Int) (l : List UInt8) (h : vE k n l ≠ 0) : vE k n l = 2 := by
  unfold vE at *
  split at h
  · exact absurd rfl h
  · rename_i h2; rw [if_neg h2]
set_option maxRecDepth 100000 in
set_option maxHeartbeats 1600000 in
theorem convb_num (k : Nat) (n : Int) (s : ByteArray) (hs : s.size ≤ maxLen) (hn : leastI ≤ n) (hv : vE k n s.data.toList = 2) (w : World) :
    Calls Tryd.prog 55 #[.agg #[.int .u8 (k : Int), .int .i64 n, .string s], .int .u8 1] w fun e w' => e = .returned (.agg #[.int .u8 4, .int .i64 2, .string ⟨#[]⟩]) ∧ Below w.heap.size w w' := by
  have HA := Lib.hid (B3.start w k n s)
  have HA2 := Lib.hid (HA.out.later (valloc _ (.cells #[.int .u8 0, .int .i64 0, .string ⟨#[]⟩] 29)))
  have HR0 : Hid (B3 ((w.alloc (.cells #[.int .u8 (k : Int), .int .i64 n, .string s] 29)).alloc (.cells #[.int .u8 0, .int .i64 0, .string ⟨#[]⟩] 29)) (w.heap.size + 1) 0 0 ⟨#[]⟩) := by
    have := B3.start (w.alloc (.cells #[.int .u8 (k : Int), .int .i64 n, .string s] 29)) 0 0 ⟨#[]⟩
    rwa [World.size_alloc] at this
  have HW : Hid (Below w.heap.size w ((w.alloc (.cells #[.int .u8 (k : Int), .int .i64 n, .string s] 29)).alloc (.cells #[.int .u8 0, .int .i64 0, .string ⟨#[]⟩] 29))) := Lib.hid (vnext (valloc _ _) (valloc _ _))
  clear HA
  go_enter Tryd.func55, Tryd.ntmps55
  go_wp2_with fail
  generalize (w.alloc (.cells #[.int .u8 (k : Int), .int .i64 n, .string s] 29)).alloc (.cells #[.int .u8 0, .int .i64 0, .string ⟨#[]⟩] 29) = wa at *
  refine (vcheck_any k n s hs hn _).mono ?_
  rw [hv]
  rintro e w1 ⟨rfl, hB⟩
  have hX := HA2.out.later hB
  obtain ⟨x0, x1, x2, z0, z1, z2⟩ := hX.cells
  have HR1 := Lib.hid (HR0.out.later hB)
  have HW1 := Lib.hid (vnext HW.out hB)
  clear hv hB
  clear x0 x1 x2 z0 z1 z2 hX
  go_wp2_with fail
  refine (fail_any 2 _).mono ?_
  rw [show flN 2 = 2 from rfl]
  rintro e w6 ⟨rfl, hB⟩
  have hX : B3 w6 (w.heap.size + 1) 0 0 ⟨#[]⟩ := HR1.out.later hB
  have HBW := Lib.hid (vnext HW1.out hB)
  clear hB
  obtain ⟨x0, x1, x2, z0, z1, z2⟩ := hX.cells
  have hXl := hX.lt
  have hq : B3 (((w6.setCell ⟨(w.heap.size + 1), 0, none⟩ (.int .u8 4)).setCell ⟨(w.heap.size + 1), 1, none⟩ (.int .i64 2)).setCell ⟨(w.heap.size + 1), 2, none⟩ (.string ⟨#[]⟩)) (w.heap.size + 1) 4 2 ⟨#[]⟩ ∧ w6.grownBy (((w6.setCell ⟨(w.heap.size + 1), 0, none⟩ (.int .u8 4)).setCell ⟨(w.heap.size + 1), 1, none⟩ (.int .i64 2)).setCell ⟨(w.heap.size + 1), 2, none⟩ (.string ⟨#[]⟩)) (some ((w.heap.size + 1))) := hX.set 4 2 ⟨#[]⟩
  have hb5 := HBW.out.grown hq.2 HBW.out.size (fun q hq => by injection hq with hq; omega)
  obtain ⟨hq, _⟩ := hq
  go_wp2_with fail
  generalize ((w6.setCell ⟨(w.heap.size + 1), 0, none⟩ (.int .u8 4)).setCell ⟨(w.heap.size + 1), 1, none⟩ (.int .i64 2)).setCell ⟨(w.heap.size + 1), 2, none⟩ (.string ⟨#[]⟩) = w5 at *
  obtain ⟨y0, y1, y2, _, _, _⟩ := hq.cells
  refine bodyPost_ret (v := .agg #[.int .u8 4, .int .i64 2, .string ⟨#[]⟩]) (by simp [results, Tryd.results55, go_sem, y0, y1, y2]) rfl ⟨rfl, hb5⟩
set_option maxRecDepth 100000 in
set_option maxHeartbeats 1600000 in
theorem convs_num (k : Nat) (n : Int) (s : ByteArray) (hs : s.size ≤ maxLen) (hn : leastI ≤ n) (hv : vE k n s.data.toList = 0) (hk : k = 1) (w : World) :
    Calls Tryd.prog 55 #[.agg #[.int .u8 (k : Int), .int .i64 n, .string s], .int .u8 1] w fun e w' => e = .returned (.agg #[.int .u8 (k : Int), .int .i64 n, .string s]) ∧ Below w.heap.size w w' := by
  have hkt : ((k : Int) == 1) = true := by subst hk; rfl
  clear hk
  have HA := Lib.hid (B3.start w k n s)
  have HA2 := Lib.hid (HA.out.later (valloc _ (.cells #[.int .u8 0, .int .i64 0, .string ⟨#[]⟩] 29)))
  have HR0 : Hid (B3 ((w.alloc (.cells #[.int .u8 (k : Int), .int .i64 n, .string s] 29)).alloc (.cells #[.int .u8 0, .int .i64 0, .string ⟨#[]⟩] 29)) (w.heap.size + 1) 0 0 ⟨#[]⟩) := by
    have := B3.start (w.alloc (.cells #[.int .u8 (k : Int), .int .i64 n, .string s] 29)) 0 0 ⟨#[]⟩
    rwa [World.size_alloc] at this
  have HW : Hid (Below w.heap.size w ((w.alloc (.cells #[.int .u8 (k : Int), .int .i64 n, .string s] 29)).alloc (.cells #[.int .u8 0, .int .i64 0, .string ⟨#[]⟩] 29))) := Lib.hid (vnext (valloc _ _) (valloc _ _))
  clear HA
  go_enter Tryd.func55, Tryd.ntmps55
  go_wp2_with fail
  generalize (w.alloc (.cells #[.int .u8 (k : Int), .int .i64 n, .string s] 29)).alloc (.cells #[.int .u8 0, .int .i64 0, .string ⟨#[]⟩] 29) = wa at *
  refine (vcheck_any k n s hs hn _).mono ?_
  rw [hv]
  rintro e w1 ⟨rfl, hB⟩
  have hX := HA2.out.later hB
  obtain ⟨x0, x1, x2, z0, z1, z2⟩ := hX.cells
  have HR1 := Lib.hid (HR0.out.later hB)
  have HW1 := Lib.hid (vnext HW.out hB)
  clear hv hB
  have HX := Lib.hid HR1.out
  have HBW := HW1
  obtain ⟨p0, p1, p2, q0, q1, q2⟩ := HR1.out.cells
  have hXl := HR1.out.lt
  have hX := HR1.out
  have hq : B3 (((w1.setCell ⟨(w.heap.size + 1), 0, none⟩ (.int .u8 (k : Int))).setCell ⟨(w.heap.size + 1), 1, none⟩ (.int .i64 n)).setCell ⟨(w.heap.size + 1), 2, none⟩ (.string s)) (w.heap.size + 1) k n s ∧ w1.grownBy (((w1.setCell ⟨(w.heap.size + 1), 0, none⟩ (.int .u8 (k : Int))).setCell ⟨(w.heap.size + 1), 1, none⟩ (.int .i64 n)).setCell ⟨(w.heap.size + 1), 2, none⟩ (.string s)) (some ((w.heap.size + 1))) := hX.set k n s
  have hb5 := HBW.out.grown hq.2 HBW.out.size (fun q hq => by injection hq with hq; omega)
  obtain ⟨hq, _⟩ := hq
  go_wp2_with fail
  generalize ((w1.setCell ⟨(w.heap.size + 1), 0, none⟩ (.int .u8 (k : Int))).setCell ⟨(w.heap.size + 1), 1, none⟩ (.int .i64 n)).setCell ⟨(w.heap.size + 1), 2, none⟩ (.string s) = w5 at *
  obtain ⟨y0, y1, y2, _, _, _⟩ := hq.cells
  refine bodyPost_ret (v := .agg #[.int .u8 (k : Int), .int .i64 n, .string s]) (by simp [results, Tryd.results55, go_sem, y0, y1, y2]) rfl ⟨rfl, hb5⟩
set_option maxRecDepth 100000 in
set_option maxHeartbeats 1600000 in
theorem conve_num (k : Nat) (n : Int) (s : ByteArray) (hs : s.size ≤ maxLen) (hn : leastI ≤ n) (hv : vE k n s.data.toList = 0) (hk : k = 4) (w : World) :
    Calls Tryd.prog 55 #[.agg #[.int .u8 (k : Int), .int .i64 n, .string s], .int .u8 1] w fun e w' => e = .returned (.agg #[.int .u8 (k : Int), .int .i64 n, .string s]) ∧ Below w.heap.size w w' := by
  have hkt : ((k : Int) == 1) = false := by subst hk; rfl
  have hk4 : ((k : Int) == 4) = true := by subst hk; rfl
  clear hk
  have HA := Lib.hid (B3.start w k n s)
  have HA2 := Lib.hid (HA.out.later (valloc _ (.cells #[.int .u8 0, .int .i64 0, .string ⟨#[]⟩] 29)))
  have HR0 : Hid (B3 ((w.alloc (.cells #[.int .u8 (k : Int), .int .i64 n, .string s] 29)).alloc (.cells #[.int .u8 0, .int .i64 0, .string ⟨#[]⟩] 29)) (w.heap.size + 1) 0 0 ⟨#[]⟩) := by
    have := B3.start (w.alloc (.cells #[.int .u8 (k : Int), .int .i64 n, .string s] 29)) 0 0 ⟨#[]⟩
    rwa [World.size_alloc] at this
  have HW : Hid (Below w.heap.size w ((w.alloc (.cells #[.int .u8 (k : Int), .int .i64 n, .string s] 29)).alloc (.cells #[.int .u8 0, .int .i64 0, .string ⟨#[]⟩] 29))) := Lib.hid (vnext (valloc _ _) (valloc _ _))
  clear HA
  go_enter Tryd.func55, Tryd.ntmps55
  go_wp2_with fail
  generalize (w.alloc (.cells #[.int .u8 (k : Int), .int .i64 n, .string s] 29)).alloc (.cells #[.int .u8 0, .int .i64 0, .string ⟨#[]⟩] 29) = wa at *
  refine (vcheck_any k n s hs hn _).mono ?_
  rw [hv]
  rintro e w1 ⟨rfl, hB⟩
  have hX := HA2.out.later hB
  obtain ⟨x0, x1, x2, z0, z1, z2⟩ := hX.cells
  have HR1 := Lib.hid (HR0.out.later hB)
  have HW1 := Lib.hid (vnext HW.out hB)
  clear hv hB
  have HX := Lib.hid HR1.out
  have HBW := HW1
  obtain ⟨p0, p1, p2, q0, q1, q2⟩ := HR1.out.cells
  have hXl := HR1.out.lt
  have hX := HR1.out
  have hq : B3 (((w1.setCell ⟨(w.heap.size + 1), 0, none⟩ (.int .u8 (k : Int))).setCell ⟨(w.heap.size + 1), 1, none⟩ (.int .i64 n)).setCell ⟨(w.heap.size + 1), 2, none⟩ (.string s)) (w.heap.size + 1) k n s ∧ w1.grownBy (((w1.setCell ⟨(w.heap.size + 1), 0, none⟩ (.int .u8 (k : Int))).setCell ⟨(w.heap.size + 1), 1, none⟩ (.int .i64 n)).setCell ⟨(w.heap.size + 1), 2, none⟩ (.string s)) (some ((w.heap.size + 1))) := hX.set k n s
  have hb5 := HBW.out.grown hq.2 HBW.out.size (fun q hq => by injection hq with hq; omega)
  obtain ⟨hq, _⟩ := hq
  go_wp2_with fail
  generalize ((w1.setCell ⟨(w.heap.size + 1), 0, none⟩ (.int .u8 (k : Int))).setCell ⟨(w.heap.size + 1), 1, none⟩ (.int .i64 n)).setCell ⟨(w.heap.size + 1), 2, none⟩ (.string s) = w5 at *
  obtain ⟨y0, y1, y2, _, _, _⟩ := hq.cells
  refine bodyPost_ret (v := .agg #[.int .u8 (k : Int), .int .i64 n, .string s]) (by simp [results, Tryd.results55, go_sem, y0, y1, y2]) rfl ⟨rfl, hb5⟩
set_option maxRecDepth 100000 in
set_option maxHeartbeats 1600000 in
theorem convb_text (k : Nat) (n : Int) (s : ByteArray) (hs : s.size ≤ maxLen) (hn : leastI ≤ n) (hv : vE k n s.data.toList = 2) (w : World) :
    Calls Tryd.prog 55 #[.agg #[.int .u8 (k : Int), .int .i64 n, .string s], .int .u8 3] w fun e w' => e = .returned (.agg #[.int .u8 4, .int .i64 2, .string ⟨#[]⟩]) ∧ Below w.heap.size w w' := by
  have HA := Lib.hid (B3.start w k n s)
  have HA2 := Lib.hid (HA.out.later (valloc _ (.cells #[.int .u8 0, .int .i64 0, .string ⟨#[]⟩] 29)))
  have HR0 : Hid (B3 ((w.alloc (.cells #[.int .u8 (k : Int), .int .i64 n, .string s] 29)).alloc (.cells #[.int .u8 0, .int .i64 0, .string ⟨#[]⟩] 29)) (w.heap.size + 1) 0 0 ⟨#[]⟩) := by
    have := B3.start (w.alloc (.cells #[.int .u8 (k : Int), .int .i64 n, .string s] 29)) 0 0 ⟨#[]⟩
    rwa [World.size_alloc] at this
  have HW : Hid (Below w.heap.size w ((w.alloc (.cells #[.int .u8 (k : Int), .int .i64 n, .string s] 29)).alloc (.cells #[.int .u8 0, .int .i64 0, .string ⟨#[]⟩] 29))) := Lib.hid (vnext (valloc _ _) (valloc _ _))
  clear HA
  go_enter Tryd.func55, Tryd.ntmps55
  go_wp2_with fail
  generalize (w.alloc (.cells #[.int .u8 (k : Int), .int .i64 n, .string s] 29)).alloc (.cells #[.int .u8 0, .int .i64 0, .string ⟨#[]⟩] 29) = wa at *
  refine (vcheck_any k n s hs hn _).mono ?_
  rw [hv]
  rintro e w1 ⟨rfl, hB⟩
  have hX := HA2.out.later hB
  obtain ⟨x0, x1, x2, z0, z1, z2⟩ := hX.cells
  have HR1 := Lib.hid (HR0.out.later hB)
  have HW1 := Lib.hid (vnext HW.out hB)
  clear hv hB
  clear x0 x1 x2 z0 z1 z2 hX
  go_wp2_with fail
  refine (fail_any 2 _).mono ?_
  rw [show flN 2 = 2 from rfl]
  rintro e w6 ⟨rfl, hB⟩
  have hX : B3 w6 (w.heap.size + 1) 0 0 ⟨#[]⟩ := HR1.out.later hB
  have HBW := Lib.hid (vnext HW1.out hB)
  clear hB
  obtain ⟨x0, x1, x2, z0, z1, z2⟩ := hX.cells
  have hXl := hX.lt
  have hq : B3 (((w6.setCell ⟨(w.heap.size + 1), 0, none⟩ (.int .u8 4)).setCell ⟨(w.heap.size + 1), 1, none⟩ (.int .i64 2)).setCell ⟨(w.heap.size + 1), 2, none⟩ (.string ⟨#[]⟩)) (w.heap.size + 1) 4 2 ⟨#[]⟩ ∧ w6.grownBy (((w6.setCell ⟨(w.heap.size + 1), 0, none⟩ (.int .u8 4)).setCell ⟨(w.heap.size + 1), 1, none⟩ (.int .i64 2)).setCell ⟨(w.heap.size + 1), 2, none⟩ (.string ⟨#[]⟩)) (some ((w.heap.size + 1))) := hX.set 4 2 ⟨#[]⟩
  have hb5 := HBW.out.grown hq.2 HBW.out.size (fun q hq => by injection hq with hq; omega)
  obtain ⟨hq, _⟩ := hq
  go_wp2_with fail
  generalize ((w6.setCell ⟨(w.heap.size + 1), 0, none⟩ (.int .u8 4)).setCell ⟨(w.heap.size + 1), 1, none⟩ (.int .i64 2)).setCell ⟨(w.heap.size + 1), 2, none⟩ (.string ⟨#[]⟩) = w5 at *
  obtain ⟨y0, y1, y2, _, _, _⟩ := hq.cells
  refine bodyPost_ret (v := .agg #[.int .u8 4, .int .i64 2, .string ⟨#[]⟩]) (by simp [results, Tryd.results55, go_sem, y0, y1, y2]) rfl ⟨rfl, hb5⟩
set_option maxRecDepth 100000 in
set_option maxHeartbeats 1600000 in
theorem convs_text (k : Nat) (n : Int) (s : ByteArray) (hs : s.size ≤ maxLen) (hn : leastI ≤ n) (hv : vE k n s.data.toList = 0) (hk : k = 3) (w : World) :
    Calls Tryd.prog 55 #[.agg #[.int .u8 (k : Int), .int .i64 n, .string s], .int .u8 3] w fun e w' => e = .returned (.agg #[.int .u8 (k : Int), .int .i64 n, .string s]) ∧ Below w.heap.size w w' := by
  have hkt : ((k : Int) == 3) = true := by subst hk; rfl
  clear hk
  have HA := Lib.hid (B3.start w k n s)
  have HA2 := Lib.hid (HA.out.later (valloc _ (.cells #[.int .u8 0, .int .i64 0, .string ⟨#[]⟩] 29)))
  have HR0 : Hid (B3 ((w.alloc (.cells #[.int .u8 (k : Int), .int .i64 n, .string s] 29)).alloc (.cells #[.int .u8 0, .int .i64 0, .string ⟨#[]⟩] 29)) (w.heap.size + 1) 0 0 ⟨#[]⟩) := by
    have := B3.start (w.alloc (.cells #[.int .u8 (k : Int), .int .i64 n, .string s] 29)) 0 0 ⟨#[]⟩
    rwa [World.size_alloc] at this
  have HW : Hid (Below w.heap.size w ((w.alloc (.cells #[.int .u8 (k : Int), .int .i64 n, .string s] 29)).alloc (.cells #[.int .u8 0, .int .i64 0, .string ⟨#[]⟩] 29))) := Lib.hid (vnext (valloc _ _) (valloc _ _))
  clear HA
  go_enter Tryd.func55, Tryd.ntmps55
  go_wp2_with fail
  generalize (w.alloc (.cells #[.int .u8 (k : Int), .int .i64 n, .string s] 29)).alloc (.cells #[.int .u8 0, .int .i64 0, .string ⟨#[]⟩] 29) = wa at *
  refine (vcheck_any k n s hs hn _).mono ?_
  rw [hv]
  rintro e w1 ⟨rfl, hB⟩
  have hX := HA2.out.later hB
  obtain ⟨x0, x1, x2, z0, z1, z2⟩ := hX.cells
  have HR1 := Lib.hid (HR0.out.later hB)
  have HW1 := Lib.hid (vnext HW.out hB)
  clear hv hB
  have HX := Lib.hid HR1.out
  have HBW := HW1
  obtain ⟨p0, p1, p2, q0, q1, q2⟩ := HR1.out.cells
  have hXl := HR1.out.lt
  have hX := HR1.out
  have hq : B3 (((w1.setCell ⟨(w.heap.size + 1), 0, none⟩ (.int .u8 (k : Int))).setCell ⟨(w.heap.size + 1), 1, none⟩ (.int .i64 n)).setCell ⟨(w.heap.size + 1), 2, none⟩ (.string s)) (w.heap.size + 1) k n s ∧ w1.grownBy (((w1.setCell ⟨(w.heap.size + 1), 0, none⟩ (.int .u8 (k : Int))).setCell ⟨(w.heap.size + 1), 1, none⟩ (.int .i64 n)).setCell ⟨(w.heap.size + 1), 2, none⟩ (.string s)) (some ((w.heap.size + 1))) := hX.set k n s
  have hb5 := HBW.out.grown hq.2 HBW.out.size (fun q hq => by injection hq with hq; omega)
  obtain ⟨hq, _⟩ := hq
  go_wp2_with fail
  generalize ((w1.setCell ⟨(w.heap.size + 1), 0, none⟩ (.int .u8 (k : Int))).setCell ⟨(w.heap.size + 1), 1, none⟩ (.int .i64 n)).setCell ⟨(w.heap.size + 1), 2, none⟩ (.string s) = w5 at *
  obtain ⟨y0, y1, y2, _, _, _⟩ := hq.cells
  refine bodyPost_ret (v := .agg #[.int .u8 (k : Int), .int .i64 n, .string s]) (by simp [results, Tryd.results55, go_sem, y0, y1, y2]) rfl ⟨rfl, hb5⟩
set_option maxRecDepth 100000 in
set_option maxHeartbeats 1600000 in
theorem conve_text (k : Nat) (n : Int) (s : ByteArray) (hs : s.size ≤ maxLen) (hn : leastI ≤ n) (hv : vE k n s.data.toList = 0) (hk : k = 4) (w : World) :
    Calls Tryd.prog 55 #[.agg #[.int .u8 (k : Int), .int .i64 n, .string s], .int .u8 3] w fun e w' => e = .returned (.agg #[.int .u8 (k : Int), .int .i64 n, .string s]) ∧ Below w.heap.size w w' := by
  have hkt : ((k : Int) == 3) = false := by subst hk; rfl
  have hk4 : ((k : Int) == 4) = true := by subst hk; rfl
  clear hk
  have HA := Lib.hid (B3.start w k n s)
  have HA2 := Lib.hid (HA.out.later (valloc _ (.cells #[.int .u8 0, .int .i64 0, .string ⟨#[]⟩] 29)))
  have HR0 : Hid (B3 ((w.alloc (.cells #[.int .u8 (k : Int), .int .i64 n, .string s] 29)).alloc (.cells #[.int .u8 0, .int .i64 0, .string ⟨#[]⟩] 29)) (w.heap.size + 1) 0 0 ⟨#[]⟩) := by
    have := B3.start (w.alloc (.cells #[.int .u8 (k : Int), .int .i64 n, .string s] 29)) 0 0 ⟨#[]⟩
    rwa [World.size_alloc] at this
  have HW : Hid (Below w.heap.size w ((w.alloc (.cells #[.int .u8 (k : Int), .int .i64 n, .string s] 29)).alloc (.cells #[.int .u8 0, .int .i64 0, .string ⟨#[]⟩] 29))) := Lib.hid (vnext (valloc _ _) (valloc _ _))
  clear HA
  go_enter Tryd.func55, Tryd.ntmps55
  go_wp2_with fail
  generalize (w.alloc (.cells #[.int .u8 (k : Int), .int .i64 n, .string s] 29)).alloc (.cells #[.int .u8 0, .int .i64 0, .string ⟨#[]⟩] 29) = wa at *
  refine (vcheck_any k n s hs hn _).mono ?_
  rw [hv]
  rintro e w1 ⟨rfl, hB⟩
  have hX := HA2.out.later hB
  obtain ⟨x0, x1, x2, z0, z1, z2⟩ := hX.cells
  have HR1 := Lib.hid (HR0.out.later hB)
  have HW1 := Lib.hid (vnext HW.out hB)
  clear hv hB
  have HX := Lib.hid HR1.out
  have HBW := HW1
  obtain ⟨p0, p1, p2, q0, q1, q2⟩ := HR1.out.cells
  have hXl := HR1.out.lt
  have hX := HR1.out
  have hq : B3 (((w1.setCell ⟨(w.heap.size + 1), 0, none⟩ (.int .u8 (k : Int))).setCell ⟨(w.heap.size + 1), 1, none⟩ (.int .i64 n)).setCell ⟨(w.heap.size + 1), 2, none⟩ (.string s)) (w.heap.size + 1) k n s ∧ w1.grownBy (((w1.setCell ⟨(w.heap.size + 1), 0, none⟩ (.int .u8 (k : Int))).setCell ⟨(w.heap.size + 1), 1, none⟩ (.int .i64 n)).setCell ⟨(w.heap.size + 1), 2, none⟩ (.string s)) (some ((w.heap.size + 1))) := hX.set k n s
  have hb5 := HBW.out.grown hq.2 HBW.out.size (fun q hq => by injection hq with hq; omega)
  obtain ⟨hq, _⟩ := hq
  go_wp2_with fail
  generalize ((w1.setCell ⟨(w.heap.size + 1), 0, none⟩ (.int .u8 (k : Int))).setCell ⟨(w.heap.size + 1), 1, none⟩ (.int .i64 n)).setCell ⟨(w.heap.size + 1), 2, none⟩ (.string s) = w5 at *
  obtain ⟨y0, y1, y2, _, _, _⟩ := hq.cells
  refine bodyPost_ret (v := .agg #[.int .u8 (k : Int), .int .i64 n, .string s]) (by simp [results, Tryd.results55, go_sem, y0, y1, y2]) rfl ⟨rfl, hb5⟩
set_option maxRecDepth 100000 in
set_option maxHeartbeats 1600000 in
theorem convb_bool (k : Nat) (n : Int) (s : ByteArray) (hs : s.size ≤ maxLen) (hn : leastI ≤ n) (hv : vE k n s.data.toList = 2) (w : World) :
    Calls Tryd.prog 55 #[.agg #[.int .u8 (k : Int), .int .i64 n, .string s], .int .u8 2] w fun e w' => e = .returned (.agg #[.int .u8 4, .int .i64 2, .string ⟨#[]⟩]) ∧ Below w.heap.size w w' := by
  have HA := Lib.hid (B3.start w k n s)
  have HA2 := Lib.hid (HA.out.later (valloc _ (.cells #[.int .u8 0, .int .i64 0, .string ⟨#[]⟩] 29)))
  have HR0 : Hid (B3 ((w.alloc (.cells #[.int .u8 (k : Int), .int .i64 n, .string s] 29)).alloc (.cells #[.int .u8 0, .int .i64 0, .string ⟨#[]⟩] 29)) (w.heap.size + 1) 0 0 ⟨#[]⟩) := by
    have := B3.start (w.alloc (.cells #[.int .u8 (k : Int), .int .i64 n, .string s] 29)) 0 0 ⟨#[]⟩
    rwa [World.size_alloc] at this
  have HW : Hid (Below w.heap.size w ((w.alloc (.cells #[.int .u8 (k : Int), .int .i64 n, .string s] 29)).alloc (.cells #[.int .u8 0, .int .i64 0, .string ⟨#[]⟩] 29))) := Lib.hid (vnext (valloc _ _) (valloc _ _))
  clear HA
  go_enter Tryd.func55, Tryd.ntmps55
  go_wp2_with fail
  generalize (w.alloc (.cells #[.int .u8 (k : Int), .int .i64 n, .string s] 29)).alloc (.cells #[.int .u8 0, .int .i64 0, .string ⟨#[]⟩] 29) = wa at *
  refine (vcheck_any k n s hs hn _).mono ?_
  rw [hv]
  rintro e w1 ⟨rfl, hB⟩
  have hX := HA2.out.later hB
  obtain ⟨x0, x1, x2, z0, z1, z2⟩ := hX.cells
  have HR1 := Lib.hid (HR0.out.later hB)
  have HW1 := Lib.hid (vnext HW.out hB)
  clear hv hB
  clear x0 x1 x2 z0 z1 z2 hX
  go_wp2_with fail
  refine (fail_any 2 _).mono ?_
  rw [show flN 2 = 2 from rfl]
  rintro e w6 ⟨rfl, hB⟩
  have hX : B3 w6 (w.heap.size + 1) 0 0 ⟨#[]⟩ := HR1.out.later hB
  have HBW := Lib.hid (vnext HW1.out hB)
  clear hB
  obtain ⟨x0, x1, x2, z0, z1, z2⟩ := hX.cells
  have hXl := hX.lt
  have hq : B3 (((w6.setCell ⟨(w.heap.size + 1), 0, none⟩ (.int .u8 4)).setCell ⟨(w.heap.size + 1), 1, none⟩ (.int .i64 2)).setCell ⟨(w.heap.size + 1), 2, none⟩ (.string ⟨#[]⟩)) (w.heap.size + 1) 4 2 ⟨#[]⟩ ∧ w6.grownBy (((w6.setCell ⟨(w.heap.size + 1), 0, none⟩ (.int .u8 4)).setCell ⟨(w.heap.size + 1), 1, none⟩ (.int .i64 2)).setCell ⟨(w.heap.size + 1), 2, none⟩ (.string ⟨#[]⟩)) (some ((w.heap.size + 1))) := hX.set 4 2 ⟨#[]⟩
  have hb5 := HBW.out.grown hq.2 HBW.out.size (fun q hq => by injection hq with hq; omega)
  obtain ⟨hq, _⟩ := hq
  go_wp2_with fail
  generalize ((w6.setCell ⟨(w.heap.size + 1), 0, none⟩ (.int .u8 4)).setCell ⟨(w.heap.size + 1), 1, none⟩ (.int .i64 2)).setCell ⟨(w.heap.size + 1), 2, none⟩ (.string ⟨#[]⟩) = w5 at *
  obtain ⟨y0, y1, y2, _, _, _⟩ := hq.cells
  refine bodyPost_ret (v := .agg #[.int .u8 4, .int .i64 2, .string ⟨#[]⟩]) (by simp [results, Tryd.results55, go_sem, y0, y1, y2]) rfl ⟨rfl, hb5⟩
set_option maxRecDepth 100000 in
set_option maxHeartbeats 1600000 in
theorem convs_bool (k : Nat) (n : Int) (s : ByteArray) (hs : s.size ≤ maxLen) (hn : leastI ≤ n) (hv : vE k n s.data.toList = 0) (hk : k = 2) (w : World) :
    Calls Tryd.prog 55 #[.agg #[.int .u8 (k : Int), .int .i64 n, .string s], .int .u8 2] w fun e w' => e = .returned (.agg #[.int .u8 (k : Int), .int .i64 n, .string s]) ∧ Below w.heap.size w w' := by
  have hkt : ((k : Int) == 2) = true := by subst hk; rfl
  clear hk
  have HA := Lib.hid (B3.start w k n s)
  have HA2 := Lib.hid (HA.out.later (valloc _ (.cells #[.int .u8 0, .int .i64 0, .string ⟨#[]⟩] 29)))
  have HR0 : Hid (B3 ((w.alloc (.cells #[.int .u8 (k : Int), .int .i64 n, .string s] 29)).alloc (.cells #[.int .u8 0, .int .i64 0, .string ⟨#[]⟩] 29)) (w.heap.size + 1) 0 0 ⟨#[]⟩) := by
    have := B3.start (w.alloc (.cells #[.int .u8 (k : Int), .int .i64 n, .string s] 29)) 0 0 ⟨#[]⟩
    rwa [World.size_alloc] at this
  have HW : Hid (Below w.heap.size w ((w.alloc (.cells #[.int .u8 (k : Int), .int .i64 n, .string s] 29)).alloc (.cells #[.int .u8 0, .int .i64 0, .string ⟨#[]⟩] 29))) := Lib.hid (vnext (valloc _ _) (valloc _ _))
  clear HA
  go_enter Tryd.func55, Tryd.ntmps55
  go_wp2_with fail
  generalize (w.alloc (.cells #[.int .u8 (k : Int), .int .i64 n, .string s] 29)).alloc (.cells #[.int .u8 0, .int .i64 0, .string ⟨#[]⟩] 29) = wa at *
  refine (vcheck_any k n s hs hn _).mono ?_
  rw [hv]
  rintro e w1 ⟨rfl, hB⟩
  have hX := HA2.out.later hB
  obtain ⟨x0, x1, x2, z0, z1, z2⟩ := hX.cells
  have HR1 := Lib.hid (HR0.out.later hB)
  have HW1 := Lib.hid (vnext HW.out hB)
  clear hv hB
  have HX := Lib.hid HR1.out
  have HBW := HW1
  obtain ⟨p0, p1, p2, q0, q1, q2⟩ := HR1.out.cells
  have hXl := HR1.out.lt
  have hX := HR1.out
  have hq : B3 (((w1.setCell ⟨(w.heap.size + 1), 0, none⟩ (.int .u8 (k : Int))).setCell ⟨(w.heap.size + 1), 1, none⟩ (.int .i64 n)).setCell ⟨(w.heap.size + 1), 2, none⟩ (.string s)) (w.heap.size + 1) k n s ∧ w1.grownBy (((w1.setCell ⟨(w.heap.size + 1), 0, none⟩ (.int .u8 (k : Int))).setCell ⟨(w.heap.size + 1), 1, none⟩ (.int .i64 n)).setCell ⟨(w.heap.size + 1), 2, none⟩ (.string s)) (some ((w.heap.size + 1))) := hX.set k n s
  have hb5 := HBW.out.grown hq.2 HBW.out.size (fun q hq => by injection hq with hq; omega)
  obtain ⟨hq, _⟩ := hq
  go_wp2_with fail
  generalize ((w1.setCell ⟨(w.heap.size + 1), 0, none⟩ (.int .u8 (k : Int))).setCell ⟨(w.heap.size + 1), 1, none⟩ (.int .i64 n)).setCell ⟨(w.heap.size + 1), 2, none⟩ (.string s) = w5 at *
  obtain ⟨y0, y1, y2, _, _, _⟩ := hq.cells
  refine bodyPost_ret (v := .agg #[.int .u8 (k : Int), .int .i64 n, .string s]) (by simp [results, Tryd.results55, go_sem, y0, y1, y2]) rfl ⟨rfl, hb5⟩
set_option maxRecDepth 100000 in
set_option maxHeartbeats 1600000 in
theorem conve_bool (k : Nat) (n : Int) (s : ByteArray) (hs : s.size ≤ maxLen) (hn : leastI ≤ n) (hv : vE k n s.data.toList = 0) (hk : k = 4) (w : World) :
    Calls Tryd.prog 55 #[.agg #[.int .u8 (k : Int), .int .i64 n, .string s], .int .u8 2] w fun e w' => e = .returned (.agg #[.int .u8 (k : Int), .int .i64 n, .string s]) ∧ Below w.heap.size w w' := by
  have hkt : ((k : Int) == 2) = false := by subst hk; rfl
  have hk4 : ((k : Int) == 4) = true := by subst hk; rfl
  clear hk
  have HA := Lib.hid (B3.start w k n s)
  have HA2 := Lib.hid (HA.out.later (valloc _ (.cells #[.int .u8 0, .int .i64 0, .string ⟨#[]⟩] 29)))
  have HR0 : Hid (B3 ((w.alloc (.cells #[.int .u8 (k : Int), .int .i64 n, .string s] 29)).alloc (.cells #[.int .u8 0, .int .i64 0, .string ⟨#[]⟩] 29)) (w.heap.size + 1) 0 0 ⟨#[]⟩) := by
    have := B3.start (w.alloc (.cells #[.int .u8 (k : Int), .int .i64 n, .string s] 29)) 0 0 ⟨#[]⟩
    rwa [World.size_alloc] at this
  have HW : Hid (Below w.heap.size w ((w.alloc (.cells #[.int .u8 (k : Int), .int .i64 n, .string s] 29)).alloc (.cells #[.int .u8 0, .int .i64 0, .string ⟨#[]⟩] 29))) := Lib.hid (vnext (valloc _ _) (valloc _ _))
  clear HA
  go_enter Tryd.func55, Tryd.ntmps55
  go_wp2_with fail
  generalize (w.alloc (.cells #[.int .u8 (k : Int), .int .i64 n, .string s] 29)).alloc (.cells #[.int .u8 0, .int .i64 0, .string ⟨#[]⟩] 29) = wa at *
  refine (vcheck_any k n s hs hn _).mono ?_
  rw [hv]
  rintro e w1 ⟨rfl, hB⟩
  have hX := HA2.out.later hB
  obtain ⟨x0, x1, x2, z0, z1, z2⟩ := hX.cells
  have HR1 := Lib.hid (HR0.out.later hB)
  have HW1 := Lib.hid (vnext HW.out hB)
  clear hv hB
  have HX := Lib.hid HR1.out
  have HBW := HW1
  obtain ⟨p0, p1, p2, q0, q1, q2⟩ := HR1.out.cells
  have hXl := HR1.out.lt
  have hX := HR1.out
  have hq : B3 (((w1.setCell ⟨(w.heap.size + 1), 0, none⟩ (.int .u8 (k : Int))).setCell ⟨(w.heap.size + 1), 1, none⟩ (.int .i64 n)).setCell ⟨(w.heap.size + 1), 2, none⟩ (.string s)) (w.heap.size + 1) k n s ∧ w1.grownBy (((w1.setCell ⟨(w.heap.size + 1), 0, none⟩ (.int .u8 (k : Int))).setCell ⟨(w.heap.size + 1), 1, none⟩ (.int .i64 n)).setCell ⟨(w.heap.size + 1), 2, none⟩ (.string s)) (some ((w.heap.size + 1))) := hX.set k n s
  have hb5 := HBW.out.grown hq.2 HBW.out.size (fun q hq => by injection hq with hq; omega)
  obtain ⟨hq, _⟩ := hq
  go_wp2_with fail
  generalize ((w1.setCell ⟨(w.heap.size + 1), 0, none⟩ (.int .u8 (k : Int))).setCell ⟨(w.heap.size + 1), 1, none⟩ (.int .i64 n)).setCell ⟨(w.heap.size + 1), 2, none⟩ (.string s) = w5 at *
  obtain ⟨y0, y1, y2, _, _, _⟩ := hq.cells
  refine bodyPost_ret (v := .agg #[.int .u8 (k : Int), .int .i64 n, .string s]) (by simp [results, Tryd.results55, go_sem, y0, y1, y2]) rfl ⟨rfl, hb5⟩
end Go.Proofs.YteoepgdfhllffaaDoor.Va
