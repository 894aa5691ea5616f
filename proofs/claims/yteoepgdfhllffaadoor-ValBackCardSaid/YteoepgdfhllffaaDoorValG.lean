/- The contracts of ToNumber, ToText and ToBool. -/
import Derived.Test.YteoepgdfhllffaaDoorValF
namespace Go.Proofs.YteoepgdfhllffaaDoor.Va
open Go Go.RowKit GM
theorem vld_sort {k : Nat} {n : Int} {s : ByteArray} (h : vE k n s.data.toList = 0) : (k = 0 ∧ n = 0 ∧ s = ⟨#[]⟩) ∨ (k = 1 ∧ n ≠ leastI ∧ s = ⟨#[]⟩) ∨ (k = 2 ∧ (n = 0 ∨ n = 1) ∧ s = ⟨#[]⟩) ∨ (k = 3 ∧ n = 0) ∨ (k = 4 ∧ (1 ≤ n ∧ n ≤ 6) ∧ s = ⟨#[]⟩) := by
  have hv : vldV k n s.data.toList = true := by
    unfold vE at h
    split at h
    · assumption
    · omega
  have emp : s.data.toList.isEmpty = true → s = ⟨#[]⟩ := fun e => ByteArray.ext (by simpa using e)
  unfold vldV at hv
  split at hv
  · simp only [Bool.and_eq_true, decide_eq_true_eq] at hv; exact .inl ⟨by assumption, hv.1, emp hv.2⟩
  split at hv
  · simp only [Bool.and_eq_true, decide_eq_true_eq] at hv; exact .inr (.inl ⟨by assumption, hv.1, emp hv.2⟩)
  split at hv
  · simp only [Bool.and_eq_true, decide_eq_true_eq] at hv; exact .inr (.inr (.inl ⟨by assumption, hv.1, emp hv.2⟩))
  split at hv
  · simp only [Bool.and_eq_true, decide_eq_true_eq] at hv; exact .inr (.inr (.inr (.inl ⟨by assumption, hv.1⟩)))
  split at hv
  · simp only [Bool.and_eq_true, decide_eq_true_eq] at hv; exact .inr (.inr (.inr (.inr ⟨by assumption, hv.1, emp hv.2⟩)))
  · cases hv
theorem maxLen_of {s : ByteArray} (h : s.size ≤ 2000) : s.size ≤ maxLen := by unfold maxLen; omega
theorem cv_num (k : Nat) (n : Int) (s : ByteArray) (hs : s.size ≤ 2000) (hi : InI n) (w : World) : Calls Tryd.prog 55 #[.agg #[.int .u8 (k : Int), .int .i64 n, .string s], .int .u8 1] w fun e w' => e = .returned (.agg #[.int .u8 ((cvR 1 k n s).1 : Int), .int .i64 (cvR 1 k n s).2.1, .string (cvR 1 k n s).2.2]) ∧ Below w.heap.size w w' := by
  have hn : leastI ≤ n := hi.1
  by_cases h0 : vE k n s.data.toList = 0
  · by_cases h1 : k = 1
    · have e : cvR 1 k n s = (k, n, s) := by unfold cvR; rw [if_pos h0, if_pos (.inl h1)]
      rw [e]
      exact convs_num k n s (maxLen_of hs) hn h0 h1 w
    by_cases h4 : k = 4
    · have e : cvR 1 k n s = (k, n, s) := by unfold cvR; rw [if_pos h0, if_pos (.inr h4)]
      rw [e]
      exact conve_num k n s (maxLen_of hs) hn h0 h4 w
    have hkt : ((k : Int) == 1) = false := by simp; omega
    have hk4 : ((k : Int) == 4) = false := by simp; omega
    have e : cvR 1 k n s = ((nbR k n s).1, (nbR k n s).2, ⟨#[]⟩) := by unfold cvR; rw [if_pos h0, if_neg (by omega), if_pos rfl]
    rw [e]
    exact conv_num k n s (maxLen_of hs) hn h0 hkt hk4 w _ _ _ (fun W _ => number_m k n s hs (fun h3 => by rcases vld_sort h0 with ⟨g, g', _⟩ | ⟨g, g', _⟩ | ⟨g, g', _⟩ | ⟨g, _⟩ | ⟨g, g', _⟩ <;> omega) W)
  · have e : cvR 1 k n s = (4, 2, ⟨#[]⟩) := by unfold cvR; rw [if_neg h0]
    rw [e]
    exact convb_num k n s (maxLen_of hs) hn (vE_two _ _ _ h0) w
theorem cv_bool (k : Nat) (n : Int) (s : ByteArray) (hs : s.size ≤ 2000) (hi : InI n) (w : World) : Calls Tryd.prog 55 #[.agg #[.int .u8 (k : Int), .int .i64 n, .string s], .int .u8 2] w fun e w' => e = .returned (.agg #[.int .u8 ((cvR 2 k n s).1 : Int), .int .i64 (cvR 2 k n s).2.1, .string (cvR 2 k n s).2.2]) ∧ Below w.heap.size w w' := by
  have hn : leastI ≤ n := hi.1
  by_cases h0 : vE k n s.data.toList = 0
  · by_cases h1 : k = 2
    · have e : cvR 2 k n s = (k, n, s) := by unfold cvR; rw [if_pos h0, if_pos (.inl h1)]
      rw [e]
      exact convs_bool k n s (maxLen_of hs) hn h0 h1 w
    by_cases h4 : k = 4
    · have e : cvR 2 k n s = (k, n, s) := by unfold cvR; rw [if_pos h0, if_pos (.inr h4)]
      rw [e]
      exact conve_bool k n s (maxLen_of hs) hn h0 h4 w
    have hkt : ((k : Int) == 2) = false := by simp; omega
    have hk4 : ((k : Int) == 4) = false := by simp; omega
    have e : cvR 2 k n s = ((trR k n s).1, (trR k n s).2, ⟨#[]⟩) := by unfold cvR; rw [if_pos h0, if_neg (by omega), if_neg (by omega), if_pos rfl]
    rw [e]
    exact conv_bool k n s (maxLen_of hs) hn h0 hkt hk4 w _ _ _ (fun W _ => truth_m k n s (maxLen_of hs) W)
  · have e : cvR 2 k n s = (4, 2, ⟨#[]⟩) := by unfold cvR; rw [if_neg h0]
    rw [e]
    exact convb_bool k n s (maxLen_of hs) hn (vE_two _ _ _ h0) w
theorem cv_text (k : Nat) (n : Int) (s : ByteArray) (hs : s.size ≤ 2000) (hi : InI n) (w : World) (hT : Pow w) : Calls Tryd.prog 55 #[.agg #[.int .u8 (k : Int), .int .i64 n, .string s], .int .u8 3] w fun e w' => e = .returned (.agg #[.int .u8 ((cvR 3 k n s).1 : Int), .int .i64 (cvR 3 k n s).2.1, .string (cvR 3 k n s).2.2]) ∧ Below w.heap.size w w' := by
  have hn : leastI ≤ n := hi.1
  by_cases h0 : vE k n s.data.toList = 0
  · by_cases h1 : k = 3
    · have e : cvR 3 k n s = (k, n, s) := by unfold cvR; rw [if_pos h0, if_pos (.inl h1)]
      rw [e]
      exact convs_text k n s (maxLen_of hs) hn h0 h1 w
    by_cases h4 : k = 4
    · have e : cvR 3 k n s = (k, n, s) := by unfold cvR; rw [if_pos h0, if_pos (.inr h4)]
      rw [e]
      exact conve_text k n s (maxLen_of hs) hn h0 h4 w
    have hkt : ((k : Int) == 3) = false := by simp; omega
    have hk4 : ((k : Int) == 4) = false := by simp; omega
    have hor : ¬ (k = 3 ∨ k = 4) := by omega
    rcases vld_sort h0 with ⟨rfl, rfl, rfl⟩ | ⟨rfl, _, rfl⟩ | ⟨rfl, g, rfl⟩ | ⟨g, _⟩ | ⟨g, _, _⟩
    · have e : cvR 3 0 0 ⟨#[]⟩ = (3, 0, ⟨#[]⟩) := by unfold cvR; rw [if_pos h0, if_neg hor]; rfl
      rw [e]
      exact conv_text 0 0 ⟨#[]⟩ (maxLen_of hs) hn h0 hkt hk4 w _ _ _ (fun W _ => text_m_b W)
    · have e : cvR 3 1 n ⟨#[]⟩ = (3, 0, ⟨(Tx.fmtL n).toArray⟩) := by unfold cvR; rw [if_pos h0, if_neg hor]; rfl
      rw [e]
      exact conv_text 1 n ⟨#[]⟩ (maxLen_of hs) hn h0 hkt hk4 w _ _ _ (fun W hB => text_m_n n W hi (hT.later hB))
    · rcases g with rfl | rfl
      · have e : cvR 3 2 0 ⟨#[]⟩ = (3, 0, ⟨#[70, 65, 76, 83, 69]⟩) := by unfold cvR; rw [if_pos h0, if_neg hor]; rfl
        rw [e]
        exact conv_text 2 0 ⟨#[]⟩ (maxLen_of hs) hn h0 hkt hk4 w _ _ _ (fun W _ => text_m_f W)
      · have e : cvR 3 2 1 ⟨#[]⟩ = (3, 0, ⟨#[84, 82, 85, 69]⟩) := by unfold cvR; rw [if_pos h0, if_neg hor]; rfl
        rw [e]
        exact conv_text 2 1 ⟨#[]⟩ (maxLen_of hs) hn h0 hkt hk4 w _ _ _ (fun W _ => text_m_t W)
    · omega
    · omega
  · have e : cvR 3 k n s = (4, 2, ⟨#[]⟩) := by unfold cvR; rw [if_neg h0]
    rw [e]
    exact convb_text k n s (maxLen_of hs) hn (vE_two _ _ _ h0) w
theorem to_num (k : Nat) (n : Int) (s : ByteArray) (hs : s.size ≤ 2000) (hi : InI n) (w : World) : Calls Tryd.prog 18 #[.agg #[.int .u8 (k : Int), .int .i64 n, .string s]] w fun e w' => e = .returned (.agg #[.int .u8 ((cvR 1 k n s).1 : Int), .int .i64 (cvR 1 k n s).2.1, .string (cvR 1 k n s).2.2]) ∧ Below w.heap.size w w' := by
  have HR0 : Hid (B3 ((w.alloc (.cells #[.int .u8 (k : Int), .int .i64 n, .string s] 29)).alloc (.cells #[.int .u8 0, .int .i64 0, .string ⟨#[]⟩] 29)) (w.heap.size + 1) 0 0 ⟨#[]⟩) := by
    have := B3.start (w.alloc (.cells #[.int .u8 (k : Int), .int .i64 n, .string s] 29)) 0 0 ⟨#[]⟩
    rwa [World.size_alloc] at this
  have HW : Hid (Below w.heap.size w ((w.alloc (.cells #[.int .u8 (k : Int), .int .i64 n, .string s] 29)).alloc (.cells #[.int .u8 0, .int .i64 0, .string ⟨#[]⟩] 29))) := Lib.hid (vnext (valloc _ _) (valloc _ _))
  have HC := Lib.hid (cv_num k n s hs hi)
  generalize hk : (cvR 1 k n s).1 = kk at *
  generalize hnn : (cvR 1 k n s).2.1 = nn at *
  generalize hss : (cvR 1 k n s).2.2 = ss at *
  clear hk hnn hss
  go_enter Tryd.func18, Tryd.ntmps18
  go_wp2_with fail
  generalize (w.alloc (.cells #[.int .u8 (k : Int), .int .i64 n, .string s] 29)).alloc (.cells #[.int .u8 0, .int .i64 0, .string ⟨#[]⟩] 29) = wa at *
  refine (HC.out _).mono ?_
  rintro e w6 ⟨rfl, hB⟩
  have hX : B3 w6 (w.heap.size + 1) 0 0 ⟨#[]⟩ := HR0.out.later hB
  have HBW := Lib.hid (vnext HW.out hB)
  clear hB
  obtain ⟨x0, x1, x2, z0, z1, z2⟩ := hX.cells
  have hXl := hX.lt
  have hq : B3 (((w6.setCell ⟨(w.heap.size + 1), 0, none⟩ (.int .u8 (kk : Int))).setCell ⟨(w.heap.size + 1), 1, none⟩ (.int .i64 nn)).setCell ⟨(w.heap.size + 1), 2, none⟩ (.string ss)) (w.heap.size + 1) kk nn ss ∧ w6.grownBy (((w6.setCell ⟨(w.heap.size + 1), 0, none⟩ (.int .u8 (kk : Int))).setCell ⟨(w.heap.size + 1), 1, none⟩ (.int .i64 nn)).setCell ⟨(w.heap.size + 1), 2, none⟩ (.string ss)) (some ((w.heap.size + 1))) := hX.set kk nn ss
  have hb5 := HBW.out.grown hq.2 HBW.out.size (fun q hq => by injection hq with hq; omega)
  obtain ⟨hq, _⟩ := hq
  go_wp2_with fail
  generalize ((w6.setCell ⟨(w.heap.size + 1), 0, none⟩ (.int .u8 (kk : Int))).setCell ⟨(w.heap.size + 1), 1, none⟩ (.int .i64 nn)).setCell ⟨(w.heap.size + 1), 2, none⟩ (.string ss) = w5 at *
  obtain ⟨y0, y1, y2, _, _, _⟩ := hq.cells
  refine bodyPost_ret (v := .agg #[.int .u8 (kk : Int), .int .i64 nn, .string ss]) (by simp [results, Tryd.results18, go_sem, y0, y1, y2]) rfl ⟨rfl, hb5⟩
theorem to_text (k : Nat) (n : Int) (s : ByteArray) (hs : s.size ≤ 2000) (hi : InI n) (w : World) (hT : Pow w) : Calls Tryd.prog 19 #[.agg #[.int .u8 (k : Int), .int .i64 n, .string s]] w fun e w' => e = .returned (.agg #[.int .u8 ((cvR 3 k n s).1 : Int), .int .i64 (cvR 3 k n s).2.1, .string (cvR 3 k n s).2.2]) ∧ Below w.heap.size w w' := by
  have HR0 : Hid (B3 ((w.alloc (.cells #[.int .u8 (k : Int), .int .i64 n, .string s] 29)).alloc (.cells #[.int .u8 0, .int .i64 0, .string ⟨#[]⟩] 29)) (w.heap.size + 1) 0 0 ⟨#[]⟩) := by
    have := B3.start (w.alloc (.cells #[.int .u8 (k : Int), .int .i64 n, .string s] 29)) 0 0 ⟨#[]⟩
    rwa [World.size_alloc] at this
  have HW : Hid (Below w.heap.size w ((w.alloc (.cells #[.int .u8 (k : Int), .int .i64 n, .string s] 29)).alloc (.cells #[.int .u8 0, .int .i64 0, .string ⟨#[]⟩] 29))) := Lib.hid (vnext (valloc _ _) (valloc _ _))
  have HC := Lib.hid (cv_text k n s hs hi)
  generalize hk : (cvR 3 k n s).1 = kk at *
  generalize hnn : (cvR 3 k n s).2.1 = nn at *
  generalize hss : (cvR 3 k n s).2.2 = ss at *
  clear hk hnn hss
  go_enter Tryd.func19, Tryd.ntmps19
  go_wp2_with fail
  generalize (w.alloc (.cells #[.int .u8 (k : Int), .int .i64 n, .string s] 29)).alloc (.cells #[.int .u8 0, .int .i64 0, .string ⟨#[]⟩] 29) = wa at *
  refine (HC.out _ (hT.later HW.out)).mono ?_
  rintro e w6 ⟨rfl, hB⟩
  have hX : B3 w6 (w.heap.size + 1) 0 0 ⟨#[]⟩ := HR0.out.later hB
  have HBW := Lib.hid (vnext HW.out hB)
  clear hB
  obtain ⟨x0, x1, x2, z0, z1, z2⟩ := hX.cells
  have hXl := hX.lt
  have hq : B3 (((w6.setCell ⟨(w.heap.size + 1), 0, none⟩ (.int .u8 (kk : Int))).setCell ⟨(w.heap.size + 1), 1, none⟩ (.int .i64 nn)).setCell ⟨(w.heap.size + 1), 2, none⟩ (.string ss)) (w.heap.size + 1) kk nn ss ∧ w6.grownBy (((w6.setCell ⟨(w.heap.size + 1), 0, none⟩ (.int .u8 (kk : Int))).setCell ⟨(w.heap.size + 1), 1, none⟩ (.int .i64 nn)).setCell ⟨(w.heap.size + 1), 2, none⟩ (.string ss)) (some ((w.heap.size + 1))) := hX.set kk nn ss
  have hb5 := HBW.out.grown hq.2 HBW.out.size (fun q hq => by injection hq with hq; omega)
  obtain ⟨hq, _⟩ := hq
  go_wp2_with fail
  generalize ((w6.setCell ⟨(w.heap.size + 1), 0, none⟩ (.int .u8 (kk : Int))).setCell ⟨(w.heap.size + 1), 1, none⟩ (.int .i64 nn)).setCell ⟨(w.heap.size + 1), 2, none⟩ (.string ss) = w5 at *
  obtain ⟨y0, y1, y2, _, _, _⟩ := hq.cells
  refine bodyPost_ret (v := .agg #[.int .u8 (kk : Int), .int .i64 nn, .string ss]) (by simp [results, Tryd.results19, go_sem, y0, y1, y2]) rfl ⟨rfl, hb5⟩
theorem to_bool (k : Nat) (n : Int) (s : ByteArray) (hs : s.size ≤ 2000) (hi : InI n) (w : World) : Calls Tryd.prog 20 #[.agg #[.int .u8 (k : Int), .int .i64 n, .string s]] w fun e w' => e = .returned (.agg #[.int .u8 ((cvR 2 k n s).1 : Int), .int .i64 (cvR 2 k n s).2.1, .string (cvR 2 k n s).2.2]) ∧ Below w.heap.size w w' := by
  have HR0 : Hid (B3 ((w.alloc (.cells #[.int .u8 (k : Int), .int .i64 n, .string s] 29)).alloc (.cells #[.int .u8 0, .int .i64 0, .string ⟨#[]⟩] 29)) (w.heap.size + 1) 0 0 ⟨#[]⟩) := by
    have := B3.start (w.alloc (.cells #[.int .u8 (k : Int), .int .i64 n, .string s] 29)) 0 0 ⟨#[]⟩
    rwa [World.size_alloc] at this
  have HW : Hid (Below w.heap.size w ((w.alloc (.cells #[.int .u8 (k : Int), .int .i64 n, .string s] 29)).alloc (.cells #[.int .u8 0, .int .i64 0, .string ⟨#[]⟩] 29))) := Lib.hid (vnext (valloc _ _) (valloc _ _))
  have HC := Lib.hid (cv_bool k n s hs hi)
  generalize hk : (cvR 2 k n s).1 = kk at *
  generalize hnn : (cvR 2 k n s).2.1 = nn at *
  generalize hss : (cvR 2 k n s).2.2 = ss at *
  clear hk hnn hss
  go_enter Tryd.func20, Tryd.ntmps20
  go_wp2_with fail
  generalize (w.alloc (.cells #[.int .u8 (k : Int), .int .i64 n, .string s] 29)).alloc (.cells #[.int .u8 0, .int .i64 0, .string ⟨#[]⟩] 29) = wa at *
  refine (HC.out _).mono ?_
  rintro e w6 ⟨rfl, hB⟩
  have hX : B3 w6 (w.heap.size + 1) 0 0 ⟨#[]⟩ := HR0.out.later hB
  have HBW := Lib.hid (vnext HW.out hB)
  clear hB
  obtain ⟨x0, x1, x2, z0, z1, z2⟩ := hX.cells
  have hXl := hX.lt
  have hq : B3 (((w6.setCell ⟨(w.heap.size + 1), 0, none⟩ (.int .u8 (kk : Int))).setCell ⟨(w.heap.size + 1), 1, none⟩ (.int .i64 nn)).setCell ⟨(w.heap.size + 1), 2, none⟩ (.string ss)) (w.heap.size + 1) kk nn ss ∧ w6.grownBy (((w6.setCell ⟨(w.heap.size + 1), 0, none⟩ (.int .u8 (kk : Int))).setCell ⟨(w.heap.size + 1), 1, none⟩ (.int .i64 nn)).setCell ⟨(w.heap.size + 1), 2, none⟩ (.string ss)) (some ((w.heap.size + 1))) := hX.set kk nn ss
  have hb5 := HBW.out.grown hq.2 HBW.out.size (fun q hq => by injection hq with hq; omega)
  obtain ⟨hq, _⟩ := hq
  go_wp2_with fail
  generalize ((w6.setCell ⟨(w.heap.size + 1), 0, none⟩ (.int .u8 (kk : Int))).setCell ⟨(w.heap.size + 1), 1, none⟩ (.int .i64 nn)).setCell ⟨(w.heap.size + 1), 2, none⟩ (.string ss) = w5 at *
  obtain ⟨y0, y1, y2, _, _, _⟩ := hq.cells
  refine bodyPost_ret (v := .agg #[.int .u8 (kk : Int), .int .i64 nn, .string ss]) (by simp [results, Tryd.results20, go_sem, y0, y1, y2]) rfl ⟨rfl, hb5⟩
end Go.Proofs.YteoepgdfhllffaaDoor.Va
