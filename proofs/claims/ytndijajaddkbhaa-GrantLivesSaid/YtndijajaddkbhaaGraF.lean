/- The program's For where the arguments are not valid. -/
import Derived.Test.YtndijajaddkbhaaGraE
namespace Go.Proofs.Ytndijajaddkbhaa.Re
open Go Go.RowKit Go.Shelf AM
attribute [local go_sem] Oper.semAt_some
set_option maxRecDepth 100000 in
set_option maxHeartbeats 6400000 in
theorem forbad_in (f : Nat) (hf : f < 256) (r1 r2 r3 r4 : Int) (ra : Option Addr) (rn rc : Nat) (L : List RV) (ga : Option Addr) (gn gc : Nat) (G : List GV) (hrn : rn ≤ 100000) (hgn : gn ≤ 100000) (w : World) (hL : IsL w ra rn L) (hG : IsG w ga gn G) (he : ¬ forE f ⟨r1, r2, r3, r4⟩ L G = 0) :
    CallsIn Fence.wide 3 Try.prog 29 #[.int .u8 (f : Int), .agg #[.int .i64 r1, .int .i64 r2, .int .i64 r3, .int .i64 r4], .slice ra rn rc, .slice ga gn gc] w fun e w' =>
      e = .returned (.tuple #[.int .u64 0, .slice none 0 0, .int .i64 (forE f ⟨r1, r2, r3, r4⟩ L G)]) ∧ Below w.heap.size w w' := by
  have HL := Lib.hid hL
  have HG := Lib.hid hG
  clear hL hG
  have HE : Hid (forE f ⟨r1, r2, r3, r4⟩ L G = if onlyV f = 0 then 2 else if gcE ⟨r1, r2, r3, r4⟩ L = 0 then (gck 64 G).2 else gcE ⟨r1, r2, r3, r4⟩ L) := rfl
  generalize forE f ⟨r1, r2, r3, r4⟩ L G = E at *
  have HNE := Lib.hid he
  clear he
  have HON := Lib.hid (only_any f hf)
  generalize onlyV f = oo at *
  have HOV := Lib.hid (fun W h => over_any r1 r2 r3 r4 ra rn rc L (by omega) W h)
  unfold overV rights3 at HOV
  generalize ovV RV.rd ⟨r1, r2, r3, r4⟩ L = A1 at *
  generalize ovV RV.wr ⟨r1, r2, r3, r4⟩ L = A2 at *
  generalize ovV RV.ow ⟨r1, r2, r3, r4⟩ L = A3 at *
  generalize gcE ⟨r1, r2, r3, r4⟩ L = ge at *
  have HCK := Lib.hid (fun W h => pcheck_any 64 ga gn gc G (by omega) W h)
  unfold ckV at HCK
  generalize (gck 64 G).1 = q1 at *
  generalize (gck 64 G).2 = q2 at *
  refine callsIn_of_wp_marks Try.func29 rfl trivial ?_ rfl
  simp only [Try.ntmps29, List.size_toArray, List.length_cons, List.length_nil, Nat.reduceAdd, Nat.reduceSub, Array.replicate_succ, Array.replicate_zero, List.push_toArray, List.append_toArray, List.nil_append, List.cons_append]
  gi_wp2_with fail
  have hf0 := Four.start (w.alloc (.cells #[.int .u8 (f : Int)] 5)) r1 r2 r3 r4 30
  have hb0 := Below.next (below_alloc w (.cells #[.int .u8 (f : Int)] 5)) (below_alloc _ (.cells #[.int .i64 r1, .int .i64 r2, .int .i64 r3, .int .i64 r4] 30))
  rw [alloc_size] at hf0
  have hs0 : ((w.alloc (.cells #[.int .u8 (f : Int)] 5)).alloc (.cells #[.int .i64 r1, .int .i64 r2, .int .i64 r3, .int .i64 r4] 30)).heap.size = w.heap.size + 1 + 1 := by rw [alloc_size, alloc_size]
  have HF0 := Lib.hid hf0
  have HB0 := Lib.hid hb0
  have HS0 := Lib.hid hs0
  clear hf0 hb0 hs0
  generalize (w.alloc (.cells #[.int .u8 (f : Int)] 5)).alloc (.cells #[.int .i64 r1, .int .i64 r2, .int .i64 r3, .int .i64 r4] 30) = W0 at *
  have hbT := (Boxed.new W0 31 (.int .u64 0)).alloc (.cells #[.slice none 0 0] 50)
  have hbY := Boxed.new (W0.alloc (.cells #[.int .u64 0] 31)) 50 (.slice none 0 0)
  have hb2 := Below.next (below_alloc W0 (.cells #[.int .u64 0] 31)) (below_alloc _ (.cells #[.slice none 0 0] 50))
  rw [alloc_size, HS0.out] at hbY
  rw [HS0.out] at hbT
  generalize (W0.alloc (.cells #[.int .u64 0] 31)).alloc (.cells #[.slice none 0 0] 50) = W2 at *
  have HT2 := Lib.hid hbT
  have HY2 := Lib.hid hbY
  have HB2 := Lib.hid hb2
  have hHsz : w.heap.size + 1 < W0.heap.size := by have := HS0.out; omega
  clear hbT hbY hb2
  refine ⟨trivial, ?_⟩
  refine (callsIn_wide.2 (HON.out _)).mono ?_
  rintro e w' ⟨rfl, rfl⟩
  obtain ⟨_, e1, e2, e3, e4⟩ := HF0.out.later HB2.out
  have hcT := HT2.out.cell
  have hfT := HT2.out.frozen
  have hcY := HY2.out.cell
  have hfY := HY2.out.frozen
  have HBW := Lib.hid (Below.next HB0.out HB2.out)
  by_cases ho : oo = 0
  · rw [if_pos ho] at HE
    subst ho
    have hT9 := (HT2.out.set (.int .u64 0)).other (B' := w.heap.size + 1 + 1 + 1) (by omega) (.slice none 0 0)
    have hY9 := (HY2.out.other (B' := w.heap.size + 1 + 1) (by omega) (.int .u64 0)).set (.slice none 0 0)
    have hB9 := (HBW.out.setCell (p := ⟨w.heap.size + 1 + 1, 0, none⟩) (by show w.heap.size ≤ w.heap.size + 1 + 1; omega) (.int .u64 0)).setCell (p := ⟨w.heap.size + 1 + 1 + 1, 0, none⟩) (by show w.heap.size ≤ w.heap.size + 1 + 1 + 1; omega) (.slice none 0 0)
    have cT9 := hT9.cell
    have cY9 := hY9.cell
    gi_wp2_with fail
    refine ⟨.tuple #[.int .u64 0, .slice none 0 0, .int .i64 2], by simp [results, Try.results29, go_sem, cT9, cY9], ?_, hB9⟩
    rw [HE.out]
  rw [if_neg ho] at HE
  have ho1 : (oo == 0) = false := by simpa using ho
  gi_wp2_with fail
  refine ⟨trivial, ?_⟩
  refine (callsIn_wide.2 (HOV.out _ ((IsOf.later HL.out HB0.out).later HB2.out))).mono ?_
  rintro e w3 ⟨rfl, hB3⟩
  have hba := below_alloc w3 (.cells #[.int .u64 (A1.toNat : Int), .int .u64 (A2.toNat : Int), .int .u64 (A3.toNat : Int)] 33)
  have HB3 := Lib.hid (Below.next (Below.next HBW.out hB3) hba)
  have HT3 := Lib.hid ((boxed_later HT2.out hB3).alloc (.cells #[.int .u64 (A1.toNat : Int), .int .u64 (A2.toNat : Int), .int .u64 (A3.toNat : Int)] 33))
  have HY3 := Lib.hid ((boxed_later HY2.out hB3).alloc (.cells #[.int .u64 (A1.toNat : Int), .int .u64 (A2.toNat : Int), .int .u64 (A3.toNat : Int)] 33))
  clear hB3 hba e1 e2 e3 e4 HT2 HY2 hcT hfT hcY hfY HF0
  by_cases hg : ge = 0
  rotate_left
  · rw [if_neg hg] at HE
    have hb1 : (ge == 0) = false := by simpa using hg
    have hb2 : (ge != 0) = true := by simpa using hg
    have hcT := HT3.out.cell
    have hfT := HT3.out.frozen
    have hcY := HY3.out.cell
    have hfY := HY3.out.frozen
    have hT9 := (HT3.out.set (.int .u64 0)).other (B' := w.heap.size + 1 + 1 + 1) (by omega) (.slice none 0 0)
    have hY9 := (HY3.out.other (B' := w.heap.size + 1 + 1) (by omega) (.int .u64 0)).set (.slice none 0 0)
    have hB9 := (HB3.out.setCell (p := ⟨w.heap.size + 1 + 1, 0, none⟩) (by show w.heap.size ≤ w.heap.size + 1 + 1; omega) (.int .u64 0)).setCell (p := ⟨w.heap.size + 1 + 1 + 1, 0, none⟩) (by show w.heap.size ≤ w.heap.size + 1 + 1 + 1; omega) (.slice none 0 0)
    have cT9 := hT9.cell
    have cY9 := hY9.cell
    gi_wp2_with fail
    refine ⟨.tuple #[.int .u64 0, .slice none 0 0, .int .i64 ge], by simp [results, Try.results29, go_sem, cT9, cY9], ?_, hB9⟩
    rw [HE.out]
  rw [if_pos hg] at HE
  subst hg
  gi_wp2_with fail
  generalize w3.alloc (.cells #[.int .u64 (A1.toNat : Int), .int .u64 (A2.toNat : Int), .int .u64 (A3.toNat : Int)] 33) = w4 at *
  refine ⟨trivial, ?_⟩
  refine (callsIn_wide.2 (HCK.out _ (IsOf.later HG.out HB3.out))).mono ?_
  rintro e w5 ⟨rfl, hB5⟩
  have HB5 := Lib.hid (Below.next HB3.out hB5)
  have HT5 := Lib.hid (boxed_later HT3.out hB5)
  have HY5 := Lib.hid (boxed_later HY3.out hB5)
  clear hB5 HT3 HY3 HB3
  have hq : ¬ q2 = 0 := by have := HNE.out; rw [HE.out] at this; exact this
  have hb1 : (q2 == 0) = false := by simpa using hq
  have hb2 : (q2 != 0) = true := by simpa using hq
  have hcT := HT5.out.cell
  have hfT := HT5.out.frozen
  have hcY := HY5.out.cell
  have hfY := HY5.out.frozen
  have hT9 := (HT5.out.set (.int .u64 0)).other (B' := w.heap.size + 1 + 1 + 1) (by omega) (.slice none 0 0)
  have hY9 := (HY5.out.other (B' := w.heap.size + 1 + 1) (by omega) (.int .u64 0)).set (.slice none 0 0)
  have hB9 := (HB5.out.setCell (p := ⟨w.heap.size + 1 + 1, 0, none⟩) (by show w.heap.size ≤ w.heap.size + 1 + 1; omega) (.int .u64 0)).setCell (p := ⟨w.heap.size + 1 + 1 + 1, 0, none⟩) (by show w.heap.size ≤ w.heap.size + 1 + 1 + 1; omega) (.slice none 0 0)
  have cT9 := hT9.cell
  have cY9 := hY9.cell
  gi_wp2_with fail
  refine ⟨.tuple #[.int .u64 0, .slice none 0 0, .int .i64 q2], by simp [results, Try.results29, go_sem, cT9, cY9], ?_, hB9⟩
  rw [HE.out]
/-- For, whatever the arguments. -/
theorem pfor_all (f : Nat) (hf : f < 256) (r1 r2 r3 r4 : Int) (ra : Option Addr) (rn rc : Nat) (L : List RV) (ga : Option Addr) (gn gc : Nat) (G : List GV) (hrn : rn ≤ 100000) (hgn : gn ≤ 100000) (w : World) (hL : IsL w ra rn L) (hG : IsG w ga gn G) :
    Calls Try.prog 29 #[.int .u8 (f : Int), .agg #[.int .i64 r1, .int .i64 r2, .int .i64 r3, .int .i64 r4], .slice ra rn rc, .slice ga gn gc] w fun e w' =>
      (∃ v, e = .returned (.tuple #[.int .u64 ((toW (forL f ⟨r1, r2, r3, r4⟩ L G)).toNat : Int), v, .int .i64 (forE f ⟨r1, r2, r3, r4⟩ L G)]) ∧ OwnN w.heap.size w' v (byL (forL f ⟨r1, r2, r3, r4⟩ L G))) ∧ Below w.heap.size w w' := by
  by_cases he : forE f ⟨r1, r2, r3, r4⟩ L G = 0
  · refine (for_any f hf r1 r2 r3 r4 ra rn rc L ga gn gc G w hL hG he).mono ?_
    rintro e w' ⟨⟨v, h1, h2⟩, h3⟩
    exact ⟨⟨v, by rw [he]; exact h1, h2⟩, h3⟩
  · refine (callsIn_wide.1 (forbad_in f hf r1 r2 r3 r4 ra rn rc L ga gn gc G hrn hgn w hL hG he)).mono ?_
    rintro e w' ⟨h1, h3⟩
    refine ⟨?_, h3⟩
    subst h1
    exact retBad rfl he
end Go.Proofs.Ytndijajaddkbhaa.Re
