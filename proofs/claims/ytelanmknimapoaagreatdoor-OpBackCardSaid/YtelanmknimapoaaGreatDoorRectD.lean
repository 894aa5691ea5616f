/- Contracts of rect.Parse. -/
import Derived.Test.YtelanmknimapoaaGreatDoorRectC
import Derived.Test.YtelanmknimapoaaGreatDoorRectCut
import Derived.Test.YtelanmknimapoaaGreatDoorAddrC
import Derived.Test.YtelanmknimapoaaGreatDoorMgj
namespace Go.Proofs.YtelanmknimapoaaGreatDoor.Re
open Go.RowKit AM
theorem zwr (s : ByteArray) (n : Nat) : (s.extract n s.size).data.toList = s.data.toList.drop n := by
 rw [ByteArray.data_extract, Array.toList_extract]
 rw [List.extract_eq_take_drop, List.take_of_length_le]
 rw [List.length_drop]; simp
abbrev Z3 := Int × Int × Int
def comb (p q : Z3) : Int × Int × Int × Int × Int :=
 if p.2.2 = 4 ∨ q.2.2 = 4 then (0, 0, 0, 0, 4) else if p.2.2 ≠ 0 ∨ q.2.2 ≠ 0 then (0, 0, 0, 0, 3) else (min p.1 q.1, min p.2.1 q.2.1, max p.1 q.1, max p.2.1 q.2.1, 0)
def RZ (l : List UInt8) : Int × Int × Int × Int × Int :=
 comb (PZ (l.take (zbg l))) (if zbg l < l.length then PZ (l.drop (zbg l + 1)) else PZ (l.take (zbg l)))
def rzV (r : Int × Int × Int × Int × Int) : Value := .tuple #[.agg #[.int .i64 r.1, .int .i64 r.2.1, .int .i64 r.2.2.1, .int .i64 r.2.2.2.1], .int .i64 r.2.2.2.2]
theorem retR {r : Int × Int × Int × Int × Int} {a b c d e : Int} (h : r = (a, b, c, d, e)) : Ending.returned (.tuple #[.agg #[.int .i64 a, .int .i64 b, .int .i64 c, .int .i64 d], .int .i64 e]) = .returned (rzV r) := by rw [h]; rfl
theorem zlj {p q : Z3} (h : p.2.2 = 4 ∨ q.2.2 = 4) : comb p q = (0, 0, 0, 0, 4) := by unfold comb; rw [if_pos h]
theorem zr4 {p q : Z3} (h : ¬ (p.2.2 = 4 ∨ q.2.2 = 4)) (h' : p.2.2 ≠ 0 ∨ q.2.2 ≠ 0) : comb p q = (0, 0, 0, 0, 3) := by unfold comb; rw [if_neg h, if_pos h']
theorem zr5 {p q : Z3} (h : p.2.2 = 0) (h' : q.2.2 = 0) : comb p q = (min p.1 q.1, min p.2.1 q.2.1, max p.1 q.1, max p.2.1 q.2.1, 0) := by
 unfold comb; rw [if_neg (by omega), if_neg (by omega)]
theorem yhj {s : ByteArray} (h : ¬ zbg s.data.toList < s.size) : RZ s.data.toList = comb (PZ s.data.toList) (PZ s.data.toList) := by
 have hl : s.data.toList.length = s.size := by simp
 have hle := zr6 s.data.toList
 unfold RZ; rw [if_neg (by omega), List.take_of_length_le (by omega)]
theorem yhi {s : ByteArray} {n : Nat} (hn : zbg s.data.toList = n) (h : n < s.size) : RZ s.data.toList = comb (PZ (s.data.toList.take n)) (PZ (s.data.toList.drop (n + 1))) := by
 have hl : s.data.toList.length = s.size := by simp
 unfold RZ; rw [hn, if_pos (by omega)]
theorem zxn (l : List UInt8) : (PZ l).2.2 = 0 ∨ (PZ l).2.2 = 3 ∨ (PZ l).2.2 = 4 := by
 unfold PZ; split
 · right; right; rfl
 · split
   · right; right; rfl
   · split
     · left; rfl
     · right; left; rfl
theorem Below.from' {V W w' : World} (h : Below V.heap.size V w') (e : V.heap = W.heap ∧ V.os = W.os ∧ V.tape = W.tape ∧ V.output = W.output) : Below W.heap.size W w' := by
 obtain ⟨e1, e2, e3, e4⟩ := e
 exact ⟨h.os.trans e2, h.tape.trans e3, h.output.trans e4, by rw [← e1]; exact h.size, fun k hk => by rw [← e1] at hk ⊢; exact h.block k hk⟩
theorem zcw (w : World) (k : Nat) : (w.drewN k).heap = w.heap ∧ (w.drewN k).os = w.os ∧ (w.drewN k).tape = w.tape ∧ (w.drewN k).output = w.output := by
 induction k generalizing w with
 | zero => exact ⟨rfl, rfl, rfl, rfl⟩
 | succ k ih => exact ih w.drew
set_option maxRecDepth 100000 in
set_option maxHeartbeats 3200000 in
theorem ycb (s : ByteArray) (hs : s.size ≤ 2000) (hn : ¬ zbg s.data.toList < s.size) (w : World) :
 Calls Tryz.prog 86 #[.string s] w fun e w' => e = .returned (rzV (RZ s.data.toList)) ∧ Below w.heap.size w w' := by
 have HC := Lib.hid (zp0 hn)
 have HZ := Lib.hid (yhj hn)
 have hpe := zxn s.data.toList
 clear hn
 go_enter Tryz.func86, Tryz.ntmps86
 go_wp2_with fail
 refine (cut_any s hs _).mono ?_
 rintro e w1 ⟨rfl, k, rfl⟩
 rw [HC.out]
 go_wp2_with fail
 refine (parse_any s hs _).mono ?_
 rintro e w2 ⟨rfl, hB2⟩
 generalize PZ s.data.toList = pz at *
 obtain ⟨p1, p2, pe⟩ := pz
 dsimp only at hpe HZ ⊢
 have FZ := Lib.hid ((Four.start w 0 0 0 0 23).later (w' := w2) (Below.from' hB2 (zcw _ _)))
 have FO := Lib.hid ((Open'.start w #[.int .i64 0, .int .i64 0, .int .i64 0, .int .i64 0] 23).later (w' := w2) (Below.from' hB2 (zcw _ _)))
 have HB2 := Lib.hid (Below.next (below_alloc w (.cells #[.int .i64 0, .int .i64 0, .int .i64 0, .int .i64 0] 23)) (Below.from' hB2 (zcw _ _)))
 clear hB2
 obtain ⟨hz, z1, z2, z3, z4⟩ := FZ.out
 have zo := FO.out.2
 rcases hpe with rfl | rfl | rfl
 · have HR : Hid (RZ s.data.toList = (p1, p2, p1, p2, 0)) := by unfold Hid; rw [HZ.out]; rw [zr5 rfl rfl]; simp
   go_wp2_with fail
   exact bodyPost_ret (v := .tuple #[.agg #[.int .i64 p1, .int .i64 p2, .int .i64 p1, .int .i64 p2], .int .i64 0]) (by simp [results, Tryz.results86, go_sem, z1, z2, z3, z4, hz]) rfl
    ⟨retR HR.out, ((((((HB2.out.setCell (Nat.le_refl _) _).setCell (Nat.le_refl _) _).setCell (Nat.le_refl _) _).setCell (Nat.le_refl _) _).alloc (by simp; omega) _).alloc (by simp; omega) _)⟩
 · have HR : Hid (RZ s.data.toList = (0, 0, 0, 0, 3)) := by unfold Hid; rw [HZ.out]; exact zr4 (by simp) (Or.inl (by simp))
   go_wp2_with fail
   exact bodyPost_ret (v := .tuple #[.agg #[.int .i64 0, .int .i64 0, .int .i64 0, .int .i64 0], .int .i64 3]) (by simp [results, Tryz.results86, go_sem, z1, z2, z3, z4, hz]) rfl
    ⟨retR HR.out, ((((((HB2.out.setCell (Nat.le_refl _) _).setCell (Nat.le_refl _) _).setCell (Nat.le_refl _) _).setCell (Nat.le_refl _) _).alloc (by simp; omega) _).alloc (by simp; omega) _)⟩
 · have HR : Hid (RZ s.data.toList = (0, 0, 0, 0, 4)) := by unfold Hid; rw [HZ.out]; exact zlj (Or.inl rfl)
   go_wp2_with fail
   exact bodyPost_ret (v := .tuple #[.agg #[.int .i64 0, .int .i64 0, .int .i64 0, .int .i64 0], .int .i64 4]) (by simp [results, Tryz.results86, go_sem, z1, z2, z3, z4, hz]) rfl
    ⟨retR HR.out, ((((((HB2.out.setCell (Nat.le_refl _) _).setCell (Nat.le_refl _) _).setCell (Nat.le_refl _) _).setCell (Nat.le_refl _) _).alloc (by simp; omega) _).alloc (by simp; omega) _)⟩
set_option maxRecDepth 100000 in
set_option maxHeartbeats 6400000 in
theorem yca (s : ByteArray) (hs : s.size ≤ 2000) (hn : zbg s.data.toList < s.size) (w : World) :
 Calls Tryz.prog 86 #[.string s] w fun e w' => e = .returned (rzV (RZ s.data.toList)) ∧ Below w.heap.size w w' := by
 obtain ⟨n, hcn⟩ : ∃ n, zbg s.data.toList = n := ⟨_, rfl⟩
 rw [hcn] at hn
 have HC := Lib.hid (zms hcn hn)
 have HZ := Lib.hid (yhi hcn hn)
 have hpe := zxn (s.data.toList.take n)
 have hqe := zxn (s.data.toList.drop (n + 1))
 have hs1 : (s.extract 0 n).size ≤ 2000 := by simp; omega
 have hs2 : (s.extract (n + 1) s.size).size ≤ 2000 := by simp; omega
 have D1 := Lib.hid (zuj s n)
 have D2 := Lib.hid (zwr s (n + 1))
 clear hcn
 generalize s.extract 0 n = sa at *
 generalize s.extract (n + 1) s.size = sb at *
 go_enter Tryz.func86, Tryz.ntmps86
 go_wp2_with fail
 refine (cut_any s hs _).mono ?_
 rintro e w1 ⟨rfl, k, rfl⟩
 rw [HC.out]
 go_wp2_with fail
 refine (parse_any sa hs1 _).mono ?_
 rintro e w2 ⟨rfl, hB2⟩
 rw [D1.out]
 generalize PZ (s.data.toList.take n) = pz at *
 obtain ⟨p1, p2, pe⟩ := pz
 have FZ := Lib.hid ((Four.start w 0 0 0 0 23).later (w' := w2) (Below.from' hB2 (zcw _ _)))
 have FO := Lib.hid ((Open'.start w #[.int .i64 0, .int .i64 0, .int .i64 0, .int .i64 0] 23).later (w' := w2) (Below.from' hB2 (zcw _ _)))
 have HB2 := Lib.hid (Below.next (below_alloc w (.cells #[.int .i64 0, .int .i64 0, .int .i64 0, .int .i64 0] 23)) (Below.from' hB2 (zcw _ _)))
 clear hB2
 dsimp only
 go_wp2_with fail
 refine (parse_any sb hs2 _).mono ?_
 rintro e w3 ⟨rfl, hB3⟩
 rw [D2.out]
 generalize PZ (s.data.toList.drop (n + 1)) = qz at *
 obtain ⟨q1, q2, qe⟩ := qz
 dsimp only at hpe hqe HZ ⊢
 have la := below_alloc w2 (.cells #[.int .i64 p1, .int .i64 p2] 98)
 have lb := below_alloc (w2.alloc (.cells #[.int .i64 p1, .int .i64 p2] 98)) (.cells #[.int .i64 p1, .int .i64 p2] 98)
 have TA := Lib.hid (((Two'.start w2 p1 p2 98).later lb).later hB3)
 have TB' := (Two'.start (w2.alloc (.cells #[.int .i64 p1, .int .i64 p2] 98)) p1 p2 98).later hB3
 have OB' := (Open'.start (w2.alloc (.cells #[.int .i64 p1, .int .i64 p2] 98)) #[.int .i64 p1, .int .i64 p2] 98).later hB3
 rw [zb3] at TB' OB'
 have TB := Lib.hid TB'
 have OB := Lib.hid OB'
 have FZ3 := Lib.hid (((FZ.out.later la).later lb).later hB3)
 have FO3 := Lib.hid (((FO.out.later la).later lb).later hB3)
 have HB3 := Lib.hid (Below.next (Below.next (Below.next HB2.out la) lb) hB3)
 have hz2 : w.heap.size < w2.heap.size := FZ.out.1
 clear TB' OB' la lb hB3
 obtain ⟨hz, z1, z2, z3, z4⟩ := FZ3.out
 have zo := FO3.out.2
 obtain ⟨hza, a1, a2⟩ := TA.out
 obtain ⟨hzb, b1, b2⟩ := TB.out
 have bo := OB.out.2
 rcases hpe with rfl | rfl | rfl <;> rcases hqe with rfl | rfl | rfl
 · have HR : Hid (RZ s.data.toList = (min p1 q1, min p2 q2, max p1 q1, max p2 q2, 0)) := by unfold Hid; rw [HZ.out]; exact zr5 rfl rfl
   go_wp2_with fail
   exact bodyPost_ret (v := .tuple #[.agg #[.int .i64 (min p1 q1), .int .i64 (min p2 q2), .int .i64 (max p1 q1), .int .i64 (max p2 q2)], .int .i64 0]) (by simp [results, Tryz.results86, go_sem, z1, z2, z3, z4]) rfl
    ⟨retR HR.out, ((((((HB3.out.setCell (by first | exact Nat.le_refl _ | (simp; omega)) _).setCell (by first | exact Nat.le_refl _ | (simp; omega)) _).setCell (by first | exact Nat.le_refl _ | (simp; omega)) _).setCell (by first | exact Nat.le_refl _ | (simp; omega)) _).setCell (by first | exact Nat.le_refl _ | (simp; omega)) _).setCell (by first | exact Nat.le_refl _ | (simp; omega)) _)⟩
 · have HR : Hid (RZ s.data.toList = (0, 0, 0, 0, 3)) := by unfold Hid; rw [HZ.out]; exact zr4 (by simp) (Or.inr (by simp))
   go_wp2_with fail
   exact bodyPost_ret (v := .tuple #[.agg #[.int .i64 0, .int .i64 0, .int .i64 0, .int .i64 0], .int .i64 3]) (by simp [results, Tryz.results86, go_sem, z1, z2, z3, z4]) rfl
    ⟨retR HR.out, ((((((HB3.out.setCell (by first | exact Nat.le_refl _ | (simp; omega)) _).setCell (by first | exact Nat.le_refl _ | (simp; omega)) _).setCell (by first | exact Nat.le_refl _ | (simp; omega)) _).setCell (by first | exact Nat.le_refl _ | (simp; omega)) _).setCell (by first | exact Nat.le_refl _ | (simp; omega)) _).setCell (by first | exact Nat.le_refl _ | (simp; omega)) _)⟩
 · have HR : Hid (RZ s.data.toList = (0, 0, 0, 0, 4)) := by unfold Hid; rw [HZ.out]; exact zlj (Or.inr rfl)
   go_wp2_with fail
   exact bodyPost_ret (v := .tuple #[.agg #[.int .i64 0, .int .i64 0, .int .i64 0, .int .i64 0], .int .i64 4]) (by simp [results, Tryz.results86, go_sem, z1, z2, z3, z4]) rfl
    ⟨retR HR.out, ((((((HB3.out.setCell (by first | exact Nat.le_refl _ | (simp; omega)) _).setCell (by first | exact Nat.le_refl _ | (simp; omega)) _).setCell (by first | exact Nat.le_refl _ | (simp; omega)) _).setCell (by first | exact Nat.le_refl _ | (simp; omega)) _).setCell (by first | exact Nat.le_refl _ | (simp; omega)) _).setCell (by first | exact Nat.le_refl _ | (simp; omega)) _)⟩
 · have HR : Hid (RZ s.data.toList = (0, 0, 0, 0, 3)) := by unfold Hid; rw [HZ.out]; exact zr4 (by simp) (Or.inl (by simp))
   go_wp2_with fail
   exact bodyPost_ret (v := .tuple #[.agg #[.int .i64 0, .int .i64 0, .int .i64 0, .int .i64 0], .int .i64 3]) (by simp [results, Tryz.results86, go_sem, z1, z2, z3, z4]) rfl
    ⟨retR HR.out, ((((((HB3.out.setCell (by first | exact Nat.le_refl _ | (simp; omega)) _).setCell (by first | exact Nat.le_refl _ | (simp; omega)) _).setCell (by first | exact Nat.le_refl _ | (simp; omega)) _).setCell (by first | exact Nat.le_refl _ | (simp; omega)) _).setCell (by first | exact Nat.le_refl _ | (simp; omega)) _).setCell (by first | exact Nat.le_refl _ | (simp; omega)) _)⟩
 · have HR : Hid (RZ s.data.toList = (0, 0, 0, 0, 3)) := by unfold Hid; rw [HZ.out]; exact zr4 (by simp) (Or.inl (by simp))
   go_wp2_with fail
   exact bodyPost_ret (v := .tuple #[.agg #[.int .i64 0, .int .i64 0, .int .i64 0, .int .i64 0], .int .i64 3]) (by simp [results, Tryz.results86, go_sem, z1, z2, z3, z4]) rfl
    ⟨retR HR.out, ((((((HB3.out.setCell (by first | exact Nat.le_refl _ | (simp; omega)) _).setCell (by first | exact Nat.le_refl _ | (simp; omega)) _).setCell (by first | exact Nat.le_refl _ | (simp; omega)) _).setCell (by first | exact Nat.le_refl _ | (simp; omega)) _).setCell (by first | exact Nat.le_refl _ | (simp; omega)) _).setCell (by first | exact Nat.le_refl _ | (simp; omega)) _)⟩
 · have HR : Hid (RZ s.data.toList = (0, 0, 0, 0, 4)) := by unfold Hid; rw [HZ.out]; exact zlj (Or.inr rfl)
   go_wp2_with fail
   exact bodyPost_ret (v := .tuple #[.agg #[.int .i64 0, .int .i64 0, .int .i64 0, .int .i64 0], .int .i64 4]) (by simp [results, Tryz.results86, go_sem, z1, z2, z3, z4]) rfl
    ⟨retR HR.out, ((((((HB3.out.setCell (by first | exact Nat.le_refl _ | (simp; omega)) _).setCell (by first | exact Nat.le_refl _ | (simp; omega)) _).setCell (by first | exact Nat.le_refl _ | (simp; omega)) _).setCell (by first | exact Nat.le_refl _ | (simp; omega)) _).setCell (by first | exact Nat.le_refl _ | (simp; omega)) _).setCell (by first | exact Nat.le_refl _ | (simp; omega)) _)⟩
 · have HR : Hid (RZ s.data.toList = (0, 0, 0, 0, 4)) := by unfold Hid; rw [HZ.out]; exact zlj (Or.inl rfl)
   go_wp2_with fail
   exact bodyPost_ret (v := .tuple #[.agg #[.int .i64 0, .int .i64 0, .int .i64 0, .int .i64 0], .int .i64 4]) (by simp [results, Tryz.results86, go_sem, z1, z2, z3, z4]) rfl
    ⟨retR HR.out, ((((((HB3.out.setCell (by first | exact Nat.le_refl _ | (simp; omega)) _).setCell (by first | exact Nat.le_refl _ | (simp; omega)) _).setCell (by first | exact Nat.le_refl _ | (simp; omega)) _).setCell (by first | exact Nat.le_refl _ | (simp; omega)) _).setCell (by first | exact Nat.le_refl _ | (simp; omega)) _).setCell (by first | exact Nat.le_refl _ | (simp; omega)) _)⟩
 · have HR : Hid (RZ s.data.toList = (0, 0, 0, 0, 4)) := by unfold Hid; rw [HZ.out]; exact zlj (Or.inl rfl)
   go_wp2_with fail
   exact bodyPost_ret (v := .tuple #[.agg #[.int .i64 0, .int .i64 0, .int .i64 0, .int .i64 0], .int .i64 4]) (by simp [results, Tryz.results86, go_sem, z1, z2, z3, z4]) rfl
    ⟨retR HR.out, ((((((HB3.out.setCell (by first | exact Nat.le_refl _ | (simp; omega)) _).setCell (by first | exact Nat.le_refl _ | (simp; omega)) _).setCell (by first | exact Nat.le_refl _ | (simp; omega)) _).setCell (by first | exact Nat.le_refl _ | (simp; omega)) _).setCell (by first | exact Nat.le_refl _ | (simp; omega)) _).setCell (by first | exact Nat.le_refl _ | (simp; omega)) _)⟩
 · have HR : Hid (RZ s.data.toList = (0, 0, 0, 0, 4)) := by unfold Hid; rw [HZ.out]; exact zlj (Or.inl rfl)
   go_wp2_with fail
   exact bodyPost_ret (v := .tuple #[.agg #[.int .i64 0, .int .i64 0, .int .i64 0, .int .i64 0], .int .i64 4]) (by simp [results, Tryz.results86, go_sem, z1, z2, z3, z4]) rfl
    ⟨retR HR.out, ((((((HB3.out.setCell (by first | exact Nat.le_refl _ | (simp; omega)) _).setCell (by first | exact Nat.le_refl _ | (simp; omega)) _).setCell (by first | exact Nat.le_refl _ | (simp; omega)) _).setCell (by first | exact Nat.le_refl _ | (simp; omega)) _).setCell (by first | exact Nat.le_refl _ | (simp; omega)) _).setCell (by first | exact Nat.le_refl _ | (simp; omega)) _)⟩
theorem zex (s : ByteArray) (hs : s.size ≤ 2000) (w : World) :
 Calls Tryz.prog 86 #[.string s] w fun e w' => e = .returned (rzV (RZ s.data.toList)) ∧ Below w.heap.size w w' := by
 by_cases h : zbg s.data.toList < s.size
 · exact yca s hs h w
 · exact ycb s hs h w
end Go.Proofs.YtelanmknimapoaaGreatDoor.Re
