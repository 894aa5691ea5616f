/- The specification's Live and For. -/
import Derived.Test.YtndijajaddkbhaaForC
namespace Go.Proofs.Ytndijajaddkbhaa.Re
open Go Go.RowKit AM
theorem relB_only {f : Nat} : relB f = true ↔ ¬ onlyV f = 0 := by
  unfold relB onlyV
  rw [decide_eq_true_eq]
  repeat' split
  all_goals (subst_vars; first | (constructor <;> intro h <;> omega) | (constructor <;> intro h <;> simp_all <;> omega))
theorem lv_bad {g : GV} {L : List RV} (h : okG 64 g = false) : lvB g L = false ∧ lvE g L = badG g := by
  unfold lvB lvE; rw [h]; exact ⟨rfl, by simp⟩
theorem lv_gc {g : GV} {L : List RV} (h : okG 64 g = true) (hg : ¬ gcE (gr4 g) L = 0) : lvB g L = false ∧ lvE g L = gcE (gr4 g) L := by
  unfold lvB lvE mayB mayE; rw [h, decide_eq_false hg, if_pos rfl, if_neg hg]; exact ⟨by simp, rfl⟩
theorem lv_yes {g : GV} {L : List RV} (h : okG 64 g = true) (hg : gcE (gr4 g) L = 0) : lvB g L = (!g.rev && hasB (ovV RV.ow (gr4 g) L) g.by_) ∧ lvE g L = 0 := by
  obtain ⟨_, h2, h3⟩ := okG_parts h
  have hv : vld g.by_ = true := vld_t ⟨h2, h3⟩
  unfold lvB lvE mayB mayE hasB ovV
  rw [h, hg, decide_eq_true rfl, if_pos rfl, if_pos rfl, if_pos rfl, hv, if_pos rfl]
  refine ⟨?_, rfl⟩
  cases g.rev <;> simp
set_option maxRecDepth 100000 in
set_option maxHeartbeats 6400000 in
theorem slive_any (g : GV) (a : Option Addr) (len cap : Nat) (L : List RV) (w : World) (hL : IsL w a len L) :
    Calls Try.prog 34 #[.agg (cells8 g).toArray, .slice a len cap] w fun e w' => e = .returned (.tuple #[.bool (lvB g L), .int .i64 (lvE g L)]) ∧ Below w.heap.size w w' := by
  have HL := Lib.hid hL
  have HBX := Lib.hid (Box8.start w g 68)
  have HBA := Lib.hid (below_alloc w (.cells (cells8 g).toArray 68))
  have HNB := Lib.hid (isOf_new (c := cells8) (n := 8) (w.alloc (.cells (cells8 g).toArray 68)) (cells8 g).toArray 68 g rfl)
  have HBB := Lib.hid (below_alloc (w.alloc (.cells (cells8 g).toArray 68)) (.cells (cells8 g).toArray 68))
  have HCK := Lib.hid (fun W h => pscheck_any 64 (some ⟨w.heap.size + 1, 0, none⟩) 1 1 [g] W h)
  have HG1 := Lib.hid (gck_one g)
  have HBAD : Hid (okG 64 g = false → lvB g L = false ∧ lvE g L = badG g) := lv_bad
  have HBN := Lib.hid (badG_ne g)
  have HGC : Hid (okG 64 g = true → ¬ gcE (gr4 g) L = 0 → lvB g L = false ∧ lvE g L = gcE (gr4 g) L) := lv_gc
  have HYE : Hid (okG 64 g = true → gcE (gr4 g) L = 0 → lvB g L = (!g.rev && hasB (ovV RV.ow (gr4 g) L) g.by_) ∧ lvE g L = 0) := lv_yes
  have HOV : Hid (∀ W, IsL W a len L → Calls Try.prog 22 #[.agg #[.int .i64 g.c1, .int .i64 g.r1, .int .i64 g.c2, .int .i64 g.r2], .slice a len cap] W fun e w' => e = .returned (.tuple #[.agg #[.int .u64 ((ovV RV.rd (gr4 g) L).toNat : Int), .int .u64 ((ovV RV.wr (gr4 g) L).toNat : Int), .int .u64 ((ovV RV.ow (gr4 g) L).toNat : Int)], .int .i64 (gcE (gr4 g) L)]) ∧ Below W.heap.size W w') := fun W h => sover_any g.c1 g.r1 g.c2 g.r2 a len cap L W h
  have HHB := Lib.hid (shas_any (ovV RV.ow (gr4 g) L) g.by_)
  rw [World.size_alloc] at HNB
  unfold ckV at HCK
  rw [HG1.out] at HCK
  dsimp only at HCK
  generalize ovV RV.rd (gr4 g) L = A1 at *
  generalize ovV RV.wr (gr4 g) L = A2 at *
  generalize ovV RV.ow (gr4 g) L = A3 at *
  generalize gcE (gr4 g) L = ge at *
  generalize lvB g L = lb at *
  generalize lvE g L = le at *
  generalize badG g = bg at *
  generalize okG 64 g = ok at *
  generalize hasB A3 g.by_ = hb at *
  obtain ⟨g1, g2, g3, g4, g5, g6, g7, g8⟩ := g
  unfold cells8 at *
  dsimp only at *
  clear HL HG1
  have HL := Lib.hid hL
  clear hL
  obtain ⟨_, d1, d2, d3, d4, d5, d6, d7, d8⟩ := HBX.out
  dsimp only at d1 d2 d3 d4 d5 d6 d7 d8
  go_enter Try.func34, Try.ntmps34
  go_wp2_with fail
  clear d1 d2 d3 d4 d5 d6 d7 d8
  have HB0 := Lib.hid (Below.next HBA.out HBB.out)
  have HX0 := Lib.hid (HBX.out.later HBB.out)
  clear HBA HBB HBX
  generalize (w.alloc (.cells #[.int .i64 g1, .int .i64 g2, .int .i64 g3, .int .i64 g4, .int .u8 (g5.toNat : Int), .int .u64 (g6.toNat : Int), .int .i64 g7, .bool g8] 68)).alloc (.cells #[.int .i64 g1, .int .i64 g2, .int .i64 g3, .int .i64 g4, .int .u8 (g5.toNat : Int), .int .u64 (g6.toNat : Int), .int .i64 g7, .bool g8] 68) = w0 at *
  refine (HCK.out _ HNB.out).mono ?_
  rintro e w1 ⟨rfl, hB1⟩
  have HX1 := Lib.hid (HX0.out.later hB1)
  have HB1 := Lib.hid (Below.next HB0.out hB1)
  clear hB1 HX0 HB0 HCK HNB
  cases ok
  · obtain ⟨rfl, rfl⟩ := HBAD.out rfl
    have hb1 : (le == 0) = false := by simpa using HBN.out
    have hb2 : (le != 0) = true := by simpa using HBN.out
    simp only [Bool.false_eq_true, if_false]
    go_wp2_with fail
    go_ret2
    exact ⟨rfl, HB1.out⟩
  simp only [if_true]
  obtain ⟨_, d1, d2, d3, d4, d5, d6, d7, d8⟩ := HX1.out
  dsimp only at d1 d2 d3 d4 d5 d6 d7 d8
  go_wp2_with fail
  clear d1 d2 d3 d4 d5 d6 d7 d8
  refine (HOV.out _ (HL.out.later HB1.out)).mono ?_
  rintro e w2 ⟨rfl, hB2⟩
  have HX2 := Lib.hid (HX1.out.later hB2)
  have HB2 := Lib.hid (Below.next HB1.out hB2)
  clear hB2 HX1 HB1 HOV
  have HBC := Lib.hid (below_alloc w2 (.cells #[.int .u64 (A1.toNat : Int), .int .u64 (A2.toNat : Int), .int .u64 (A3.toNat : Int)] 33))
  have HR3 := Lib.hid (Box3.start w2 (A1.toNat : Int) (A2.toNat : Int) (A3.toNat : Int) 33)
  by_cases hg : ge = 0
  rotate_left
  · obtain ⟨rfl, rfl⟩ := HGC.out trivial hg
    have hb1 : (le == 0) = false := by simpa using hg
    have hb2 : (le != 0) = true := by simpa using hg
    go_wp2_with fail
    go_ret2
    exact ⟨rfl, Below.next HB2.out HBC.out⟩
  obtain ⟨rfl, rfl⟩ := HYE.out trivial hg
  subst hg
  obtain ⟨_, d1, d2, d3, d4, d5, d6, d7, d8⟩ := HX2.out.later HBC.out
  obtain ⟨_, k1, k2, k3⟩ := HR3.out
  dsimp only at d1 d2 d3 d4 d5 d6 d7 d8
  cases g8
  · go_wp2_with fail
    refine (HHB.out _).mono ?_
    rintro e w3 ⟨rfl, rfl⟩
    go_wp2_with fail
    go_ret2
    exact ⟨by simp, Below.next HB2.out HBC.out⟩
  · go_wp2_with fail
    go_ret2
    exact ⟨by simp, Below.next HB2.out HBC.out⟩
end Go.Proofs.Ytndijajaddkbhaa.Re
