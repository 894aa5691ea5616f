/- Whether a log begins with another one: both sides. -/
import Derived.Test.YtndijajaddkbhaaEvB
namespace Go.Proofs.Ytndijajaddkbhaa.Re
open Go.RowKit AM
theorem beqI_f {a b : Int} (h : ¬ a = b) : (a == b) = false := by simpa using h
theorem beqN_f {n : Nat} {a b : BitVec n} (h : ¬ a = b) : ((a.toNat : Int) == (b.toNat : Int)) = false := beqI_f fun e => h (BitVec.eq_of_toNat_eq (Int.ofNat.inj e))
theorem beqB_f {a b : Bool} (h : ¬ a = b) : (a == b) = false := by simpa using h
theorem ev_eq (r s : EV) : r = s ∨ ((r.st == s.st) = false ∧ ¬ r = s) ∨ (r.st = s.st ∧ (r.us == s.us) = false ∧ ¬ r = s) ∨ (r.st = s.st ∧ r.us = s.us ∧ ((r.kd.toNat : Int) == (s.kd.toNat : Int)) = false ∧ ¬ r = s) ∨ (r.st = s.st ∧ r.us = s.us ∧ r.kd = s.kd ∧ (r.c1 == s.c1) = false ∧ ¬ r = s) ∨ (r.st = s.st ∧ r.us = s.us ∧ r.kd = s.kd ∧ r.c1 = s.c1 ∧ (r.r1 == s.r1) = false ∧ ¬ r = s) ∨ (r.st = s.st ∧ r.us = s.us ∧ r.kd = s.kd ∧ r.c1 = s.c1 ∧ r.r1 = s.r1 ∧ (r.c2 == s.c2) = false ∧ ¬ r = s) ∨ (r.st = s.st ∧ r.us = s.us ∧ r.kd = s.kd ∧ r.c1 = s.c1 ∧ r.r1 = s.r1 ∧ r.c2 = s.c2 ∧ (r.r2 == s.r2) = false ∧ ¬ r = s) ∨ (r.st = s.st ∧ r.us = s.us ∧ r.kd = s.kd ∧ r.c1 = s.c1 ∧ r.r1 = s.r1 ∧ r.c2 = s.c2 ∧ r.r2 = s.r2 ∧ (r.dn == s.dn) = false ∧ ¬ r = s) ∨ (r.st = s.st ∧ r.us = s.us ∧ r.kd = s.kd ∧ r.c1 = s.c1 ∧ r.r1 = s.r1 ∧ r.c2 = s.c2 ∧ r.r2 = s.r2 ∧ r.dn = s.dn ∧ ((r.tos.toNat : Int) == (s.tos.toNat : Int)) = false ∧ ¬ r = s) := by
  obtain ⟨x1, x2, x3, x4, x5, x6, x7, x8, x9⟩ := r
  obtain ⟨y1, y2, y3, y4, y5, y6, y7, y8, y9⟩ := s
  dsimp only
  by_cases h1 : x1 = y1
  rotate_left
  · exact .inr <| .inl ⟨beqI_f h1, fun e => h1 (by injection e)⟩
  subst h1
  by_cases h2 : x2 = y2
  rotate_left
  · exact .inr <| .inr <| .inl ⟨rfl, beqI_f h2, fun e => h2 (by injection e)⟩
  subst h2
  by_cases h3 : x3 = y3
  rotate_left
  · exact .inr <| .inr <| .inr <| .inl ⟨rfl, rfl, beqN_f h3, fun e => h3 (by injection e)⟩
  subst h3
  by_cases h4 : x4 = y4
  rotate_left
  · exact .inr <| .inr <| .inr <| .inr <| .inl ⟨rfl, rfl, rfl, beqI_f h4, fun e => h4 (by injection e)⟩
  subst h4
  by_cases h5 : x5 = y5
  rotate_left
  · exact .inr <| .inr <| .inr <| .inr <| .inr <| .inl ⟨rfl, rfl, rfl, rfl, beqI_f h5, fun e => h5 (by injection e)⟩
  subst h5
  by_cases h6 : x6 = y6
  rotate_left
  · exact .inr <| .inr <| .inr <| .inr <| .inr <| .inr <| .inl ⟨rfl, rfl, rfl, rfl, rfl, beqI_f h6, fun e => h6 (by injection e)⟩
  subst h6
  by_cases h7 : x7 = y7
  rotate_left
  · exact .inr <| .inr <| .inr <| .inr <| .inr <| .inr <| .inr <| .inl ⟨rfl, rfl, rfl, rfl, rfl, rfl, beqI_f h7, fun e => h7 (by injection e)⟩
  subst h7
  by_cases h8 : x8 = y8
  rotate_left
  · exact .inr <| .inr <| .inr <| .inr <| .inr <| .inr <| .inr <| .inr <| .inl ⟨rfl, rfl, rfl, rfl, rfl, rfl, rfl, beqB_f h8, fun e => h8 (by injection e)⟩
  subst h8
  by_cases h9 : x9 = y9
  rotate_left
  · exact .inr <| .inr <| .inr <| .inr <| .inr <| .inr <| .inr <| .inr <| .inr <| ⟨rfl, rfl, rfl, rfl, rfl, rfl, rfl, rfl, beqN_f h9, fun e => h9 (by injection e)⟩
  subst h9
  exact .inl rfl
theorem lv_eq (r s : LV) : r = s ∨ ((r.st == s.st) = false ∧ ¬ r = s) ∨ (r.st = s.st ∧ (r.ac == s.ac) = false ∧ ¬ r = s) ∨ (r.st = s.st ∧ r.ac = s.ac ∧ (r.ar == s.ar) = false ∧ ¬ r = s) ∨ (r.st = s.st ∧ r.ac = s.ac ∧ r.ar = s.ar ∧ (r.nd == s.nd) = false ∧ ¬ r = s) ∨ (r.st = s.st ∧ r.ac = s.ac ∧ r.ar = s.ar ∧ r.nd = s.nd ∧ ((r.fn.toNat : Int) == (s.fn.toNat : Int)) = false ∧ ¬ r = s) ∨ (r.st = s.st ∧ r.ac = s.ac ∧ r.ar = s.ar ∧ r.nd = s.nd ∧ r.fn = s.fn ∧ (r.c1 == s.c1) = false ∧ ¬ r = s) ∨ (r.st = s.st ∧ r.ac = s.ac ∧ r.ar = s.ar ∧ r.nd = s.nd ∧ r.fn = s.fn ∧ r.c1 = s.c1 ∧ (r.r1 == s.r1) = false ∧ ¬ r = s) ∨ (r.st = s.st ∧ r.ac = s.ac ∧ r.ar = s.ar ∧ r.nd = s.nd ∧ r.fn = s.fn ∧ r.c1 = s.c1 ∧ r.r1 = s.r1 ∧ (r.c2 == s.c2) = false ∧ ¬ r = s) ∨ (r.st = s.st ∧ r.ac = s.ac ∧ r.ar = s.ar ∧ r.nd = s.nd ∧ r.fn = s.fn ∧ r.c1 = s.c1 ∧ r.r1 = s.r1 ∧ r.c2 = s.c2 ∧ (r.r2 == s.r2) = false ∧ ¬ r = s) ∨ (r.st = s.st ∧ r.ac = s.ac ∧ r.ar = s.ar ∧ r.nd = s.nd ∧ r.fn = s.fn ∧ r.c1 = s.c1 ∧ r.r1 = s.r1 ∧ r.c2 = s.c2 ∧ r.r2 = s.r2 ∧ (r.gr == s.gr) = false ∧ ¬ r = s) ∨ (r.st = s.st ∧ r.ac = s.ac ∧ r.ar = s.ar ∧ r.nd = s.nd ∧ r.fn = s.fn ∧ r.c1 = s.c1 ∧ r.r1 = s.r1 ∧ r.c2 = s.c2 ∧ r.r2 = s.r2 ∧ r.gr = s.gr ∧ ((r.tos.toNat : Int) == (s.tos.toNat : Int)) = false ∧ ¬ r = s) := by
  obtain ⟨x1, x2, x3, x4, x5, x6, x7, x8, x9, x10, x11⟩ := r
  obtain ⟨y1, y2, y3, y4, y5, y6, y7, y8, y9, y10, y11⟩ := s
  dsimp only
  by_cases h1 : x1 = y1
  rotate_left
  · exact .inr <| .inl ⟨beqI_f h1, fun e => h1 (by injection e)⟩
  subst h1
  by_cases h2 : x2 = y2
  rotate_left
  · exact .inr <| .inr <| .inl ⟨rfl, beqI_f h2, fun e => h2 (by injection e)⟩
  subst h2
  by_cases h3 : x3 = y3
  rotate_left
  · exact .inr <| .inr <| .inr <| .inl ⟨rfl, rfl, beqI_f h3, fun e => h3 (by injection e)⟩
  subst h3
  by_cases h4 : x4 = y4
  rotate_left
  · exact .inr <| .inr <| .inr <| .inr <| .inl ⟨rfl, rfl, rfl, beqI_f h4, fun e => h4 (by injection e)⟩
  subst h4
  by_cases h5 : x5 = y5
  rotate_left
  · exact .inr <| .inr <| .inr <| .inr <| .inr <| .inl ⟨rfl, rfl, rfl, rfl, beqN_f h5, fun e => h5 (by injection e)⟩
  subst h5
  by_cases h6 : x6 = y6
  rotate_left
  · exact .inr <| .inr <| .inr <| .inr <| .inr <| .inr <| .inl ⟨rfl, rfl, rfl, rfl, rfl, beqI_f h6, fun e => h6 (by injection e)⟩
  subst h6
  by_cases h7 : x7 = y7
  rotate_left
  · exact .inr <| .inr <| .inr <| .inr <| .inr <| .inr <| .inr <| .inl ⟨rfl, rfl, rfl, rfl, rfl, rfl, beqI_f h7, fun e => h7 (by injection e)⟩
  subst h7
  by_cases h8 : x8 = y8
  rotate_left
  · exact .inr <| .inr <| .inr <| .inr <| .inr <| .inr <| .inr <| .inr <| .inl ⟨rfl, rfl, rfl, rfl, rfl, rfl, rfl, beqI_f h8, fun e => h8 (by injection e)⟩
  subst h8
  by_cases h9 : x9 = y9
  rotate_left
  · exact .inr <| .inr <| .inr <| .inr <| .inr <| .inr <| .inr <| .inr <| .inr <| .inl ⟨rfl, rfl, rfl, rfl, rfl, rfl, rfl, rfl, beqI_f h9, fun e => h9 (by injection e)⟩
  subst h9
  by_cases h10 : x10 = y10
  rotate_left
  · exact .inr <| .inr <| .inr <| .inr <| .inr <| .inr <| .inr <| .inr <| .inr <| .inr <| .inl ⟨rfl, rfl, rfl, rfl, rfl, rfl, rfl, rfl, rfl, beqI_f h10, fun e => h10 (by injection e)⟩
  subst h10
  by_cases h11 : x11 = y11
  rotate_left
  · exact .inr <| .inr <| .inr <| .inr <| .inr <| .inr <| .inr <| .inr <| .inr <| .inr <| .inr <| ⟨rfl, rfl, rfl, rfl, rfl, rfl, rfl, rfl, rfl, rfl, beqN_f h11, fun e => h11 (by injection e)⟩
  subst h11
  exact .inl rfl
noncomputable def grB (L M : List EV) : Bool := @decide (L = M.take L.length) (Classical.propDecidable _)
theorem grB_t {L M : List EV} (h : L = M.take L.length) : grB L M = true := by unfold grB; exact @decide_eq_true _ (Classical.propDecidable _) h
theorem grB_f {L M : List EV} (h : ¬ L = M.take L.length) : grB L M = false := by unfold grB; exact @decide_eq_false _ (Classical.propDecidable _) h
set_option maxRecDepth 100000 in
set_option maxHeartbeats 6400000 in
theorem grows_any (a a' : Option Addr) (n m cap cap' : Nat) (L M : List EV) (hn : n ≤ 100000) (hm : m ≤ 100000) (w : World) (hL : IsEV w a n L) (hM : IsEV w a' m M) :
    Calls Try.prog 47 #[.slice a n cap, .slice a' m cap'] w fun e w' => e = .returned (.bool (grB L M)) ∧ Below w.heap.size w w' := by
  have HL := Lib.hid hL
  have HM := Lib.hid hM
  have HLL := Lib.hid hL.1
  have HML := Lib.hid hM.1
  clear hL hM
  by_cases hlong : m < n
  · have HG : Hid (grB L M = false) := grB_f fun h => by
      have := congrArg List.length h
      rw [List.length_take, HLL.out, HML.out] at this; omega
    go_enter Try.func47, Try.ntmps47
    go_wp2_with fail
    go_ret
    exact ⟨retB HG.out.symm, Below.refl _ _⟩
  go_enter Try.func47, Try.ntmps47
  go_wp2_with fail
  go_loopw [14] (fun i wr => ∃ k : Nat, k ≤ n ∧ i = .int .i64 k ∧ Hid (L.take k = M.take k) ∧ Below w.heap.size w wr) (fun i _ => n - (intOf i).toNat)
  case atStart => exact ⟨0, Nat.zero_le _, rfl, rfl, Below.refl _ _⟩
  case round =>
    obtain ⟨k, hk, rfl, HT, hB⟩ := hrel
    have HB := Lib.hid hB
    have hz := hB.size
    clear hB
    by_cases hlt : k < n
    · have hkl : k < L.length := by rw [HLL.out]; exact hlt
      have hkm : k < M.length := by rw [HML.out]; omega
      have HEQ : Hid (L[k] = M[k] → L.take (k + 1) = M.take (k + 1)) := fun e => by
        rw [List.take_succ_eq_append_getElem hkl, List.take_succ_eq_append_getElem hkm, HT.out, e]
      have HNE : Hid (¬ L[k] = M[k] → grB L M = false) := fun h => grB_f fun e => h (by
        have h2 : M[k]? = L[k]? := by
          conv => rhs; rw [e]
          rw [List.getElem?_take]; rw [if_pos (by omega)]
        rw [List.getElem?_eq_getElem hkl, List.getElem?_eq_getElem hkm] at h2
        injection h2 with h2
        exact h2.symm)
      obtain ⟨b, off, rfl, hr⟩ := (HL.out.later HB.out).2 (by omega)
      obtain ⟨b', off', rfl, hr'⟩ := (HM.out.later HB.out).2 (by omega)
      have hbl := hr.1
      have hbl' := hr'.1
      have s1 := RowOf.atEV hr k hkl
      have HBA := Lib.hid (below_alloc wr (.cells (cellsEV L[k]).toArray 84))
      have s2 := RowOf.atEV (hr'.later HBA.out) k hkm
      have s3 := BoxEV.start wr L[k] 84
      clear hr hr'
      have hq := ev_eq M[k] L[k]
      generalize L[k] = r at *
      generalize M[k] = s at *
      rcases hq with hq | hq
      · obtain rfl : r = s := hq.symm
        have HZ := Lib.hid (HEQ.out rfl)
        clear HEQ HNE HT
        obtain ⟨x1, x2, x3, x4, x5, x6, x7, x8, x9⟩ := r
        obtain ⟨c1, c2, c3, c4, c5, c6, c7, c8, c9⟩ := s1
        obtain ⟨d1, d2, d3, d4, d5, d6, d7, d8, d9⟩ := s2
        obtain ⟨_, e1, e2, e3, e4, e5, e6, e7, e8, e9⟩ := s3
        unfold cellsEV at d1 d2 d3 d4 d5 d6 d7 d8 d9 e1 e2 e3 e4 e5 e6 e7 e8 e9 HBA
        dsimp only at *
        go_wp2_with fail
        go_quiet (fail)
        go_wp2_with fail
        go_roundw
        case rel => exact ⟨k + 1, by omega, by go_num, HZ.out, Below.next HB.out (by have := HBA.out; exact ⟨this.os, this.tape, this.output, this.size, this.block⟩)⟩
        case measure => simp [intOf]; omega
      · have hne : ¬ r = s := by
          rcases hq with ⟨_, h⟩ | ⟨_, _, h⟩ | ⟨_, _, _, h⟩ | ⟨_, _, _, _, h⟩ | ⟨_, _, _, _, _, h⟩ | ⟨_, _, _, _, _, _, h⟩ | ⟨_, _, _, _, _, _, _, h⟩ | ⟨_, _, _, _, _, _, _, _, h⟩ | ⟨_, _, _, _, _, _, _, _, _, h⟩ <;> exact fun e => h e.symm
        have HZ := Lib.hid (HNE.out hne)
        clear HEQ HNE HT hne
        obtain ⟨x1, x2, x3, x4, x5, x6, x7, x8, x9⟩ := r
        obtain ⟨y1, y2, y3, y4, y5, y6, y7, y8, y9⟩ := s
        obtain ⟨c1, c2, c3, c4, c5, c6, c7, c8, c9⟩ := s1
        obtain ⟨d1, d2, d3, d4, d5, d6, d7, d8, d9⟩ := s2
        obtain ⟨_, e1, e2, e3, e4, e5, e6, e7, e8, e9⟩ := s3
        unfold cellsEV at d1 d2 d3 d4 d5 d6 d7 d8 d9 e1 e2 e3 e4 e5 e6 e7 e8 e9 HBA
        dsimp only at *
        rcases hq with ⟨q1, _⟩ | ⟨rfl, q1, _⟩ | ⟨rfl, rfl, q1, _⟩ | ⟨rfl, rfl, rfl, q1, _⟩ | ⟨rfl, rfl, rfl, rfl, q1, _⟩ | ⟨rfl, rfl, rfl, rfl, rfl, q1, _⟩ | ⟨rfl, rfl, rfl, rfl, rfl, rfl, q1, _⟩ | ⟨rfl, rfl, rfl, rfl, rfl, rfl, rfl, q1, _⟩ | ⟨rfl, rfl, rfl, rfl, rfl, rfl, rfl, rfl, q1, _⟩
        all_goals
          go_wp2_with fail
          go_quiet (fail)
          go_wp2_with fail
          go_ret
          exact ⟨retB HZ.out.symm, Below.next HB.out (by have := HBA.out; exact ⟨this.os, this.tape, this.output, this.size, this.block⟩)⟩
    · obtain rfl : k = n := by omega
      have HG : Hid (grB L M = true) := grB_t (by
        have h := HT.out
        rw [List.take_of_length_le (by rw [HLL.out]; exact Nat.le_refl _)] at h
        rw [HLL.out]; exact h)
      go_wp2_with fail
      go_ret
      exact ⟨retB HG.out.symm, HB.out⟩
set_option maxRecDepth 100000 in
set_option maxHeartbeats 6400000 in
theorem sgrows_any (a a' : Option Addr) (n m cap cap' : Nat) (L M : List EV) (hn : n ≤ 100000) (hm : m ≤ 100000) (w : World) (hL : IsEV w a n L) (hM : IsEV w a' m M) :
    Calls Try.prog 48 #[.slice a n cap, .slice a' m cap'] w fun e w' => e = .returned (.bool (grB L M)) ∧ Below w.heap.size w w' := by
  have HL := Lib.hid hL
  have HM := Lib.hid hM
  have HLL := Lib.hid hL.1
  have HML := Lib.hid hM.1
  clear hL hM
  by_cases hlong : m < n
  · have HG : Hid (grB L M = false) := grB_f fun h => by
      have := congrArg List.length h
      rw [List.length_take, HLL.out, HML.out] at this; omega
    go_enter Try.func48, Try.ntmps48
    go_wp2_with fail
    go_ret
    exact ⟨retB HG.out.symm, Below.refl _ _⟩
  go_enter Try.func48, Try.ntmps48
  go_wp2_with fail
  go_loopw [5] (fun i wr => ∃ k : Nat, k ≤ n ∧ i = .int .i64 k ∧ Hid (L.take k = M.take k) ∧ Below w.heap.size w wr) (fun i _ => n - (intOf i).toNat)
  case atStart => exact ⟨0, Nat.zero_le _, rfl, rfl, Below.refl _ _⟩
  case round =>
    obtain ⟨k, hk, rfl, HT, hB⟩ := hrel
    have HB := Lib.hid hB
    have hz := hB.size
    clear hB
    by_cases hlt : k < n
    · have hkl : k < L.length := by rw [HLL.out]; exact hlt
      have hkm : k < M.length := by rw [HML.out]; omega
      have HEQ : Hid (L[k] = M[k] → L.take (k + 1) = M.take (k + 1)) := fun e => by
        rw [List.take_succ_eq_append_getElem hkl, List.take_succ_eq_append_getElem hkm, HT.out, e]
      have HNE : Hid (¬ L[k] = M[k] → grB L M = false) := fun h => grB_f fun e => h (by
        have h2 : M[k]? = L[k]? := by
          conv => rhs; rw [e]
          rw [List.getElem?_take]; rw [if_pos (by omega)]
        rw [List.getElem?_eq_getElem hkl, List.getElem?_eq_getElem hkm] at h2
        injection h2 with h2
        exact h2.symm)
      obtain ⟨b, off, rfl, hr⟩ := (HL.out.later HB.out).2 (by omega)
      obtain ⟨b', off', rfl, hr'⟩ := (HM.out.later HB.out).2 (by omega)
      have hbl := hr.1
      have hbl' := hr'.1
      have s1 := RowOf.atEV hr k hkl
      have s2 := RowOf.atEV hr' k hkm
      clear hr hr'
      have hq := ev_eq L[k] M[k]
      generalize L[k] = r at *
      generalize M[k] = s at *
      rcases hq with hq | hq
      · obtain rfl : r = s := hq
        have HZ := Lib.hid (HEQ.out rfl)
        clear HEQ HNE HT
        obtain ⟨x1, x2, x3, x4, x5, x6, x7, x8, x9⟩ := r
        obtain ⟨c1, c2, c3, c4, c5, c6, c7, c8, c9⟩ := s1
        obtain ⟨d1, d2, d3, d4, d5, d6, d7, d8, d9⟩ := s2
        dsimp only at *
        go_wp2_with fail
        go_quiet (fail)
        go_wp2_with fail
        go_roundw
        case rel => exact ⟨k + 1, by omega, by go_num, HZ.out, ⟨HB.out.os, HB.out.tape, HB.out.output, HB.out.size, HB.out.block⟩⟩
        case measure => simp [intOf]; omega
      · have hne : ¬ r = s := by
          rcases hq with ⟨_, h⟩ | ⟨_, _, h⟩ | ⟨_, _, _, h⟩ | ⟨_, _, _, _, h⟩ | ⟨_, _, _, _, _, h⟩ | ⟨_, _, _, _, _, _, h⟩ | ⟨_, _, _, _, _, _, _, h⟩ | ⟨_, _, _, _, _, _, _, _, h⟩ | ⟨_, _, _, _, _, _, _, _, _, h⟩ <;> exact h
        have HZ := Lib.hid (HNE.out hne)
        clear HEQ HNE HT hne
        obtain ⟨x1, x2, x3, x4, x5, x6, x7, x8, x9⟩ := r
        obtain ⟨y1, y2, y3, y4, y5, y6, y7, y8, y9⟩ := s
        obtain ⟨c1, c2, c3, c4, c5, c6, c7, c8, c9⟩ := s1
        obtain ⟨d1, d2, d3, d4, d5, d6, d7, d8, d9⟩ := s2
        dsimp only at *
        rcases hq with ⟨q1, _⟩ | ⟨rfl, q1, _⟩ | ⟨rfl, rfl, q1, _⟩ | ⟨rfl, rfl, rfl, q1, _⟩ | ⟨rfl, rfl, rfl, rfl, q1, _⟩ | ⟨rfl, rfl, rfl, rfl, rfl, q1, _⟩ | ⟨rfl, rfl, rfl, rfl, rfl, rfl, q1, _⟩ | ⟨rfl, rfl, rfl, rfl, rfl, rfl, rfl, q1, _⟩ | ⟨rfl, rfl, rfl, rfl, rfl, rfl, rfl, rfl, q1, _⟩
        all_goals
          go_wp2_with fail
          go_quiet (fail)
          go_wp2_with fail
          go_ret
          exact ⟨retB HZ.out.symm, ⟨HB.out.os, HB.out.tape, HB.out.output, HB.out.size, HB.out.block⟩⟩
    · obtain rfl : k = n := by omega
      have HG : Hid (grB L M = true) := grB_t (by
        have h := HT.out
        rw [List.take_of_length_le (by rw [HLL.out]; exact Nat.le_refl _)] at h
        rw [HLL.out]; exact h)
      go_wp2_with fail
      go_ret
      exact ⟨retB HG.out.symm, HB.out⟩
end Go.Proofs.Ytndijajaddkbhaa.Re
