/- The contracts of Fail, Make, Truth, and of the methods that convert. -/
import Derived.Test.YtdanbabamcdebaaGreatDoorValC
import Derived.Test.YtdanbabamcdebaaGreatDoorGlyphD
import Derived.Test.YtdanbabamcdebaaGreatDoorT1
import Derived.Test.YtdanbabamcdebaaGreatDoorTxtCut
import Derived.Test.YtdanbabamcdebaaGreatDoorTxtC
import Derived.Test.YtdanbabamcdebaaGreatDoorTxtD
import Derived.Test.YtdanbabamcdebaaGreatDoorTxtE
import Derived.Test.YtdanbabamcdebaaGreatDoorMapK
namespace Go.Proofs.YtdanbabamcdebaaGreatDoor.Va
open Go Go.RowKit GM
def flN (c : Int) : Int := if 1 ≤ c ∧ c ≤ 7 then c else 2
theorem fail_any (c : Int) (w : World) : Calls Tryz.prog 83 #[.int .i64 c] w fun e w' => e = .returned (.agg #[.int .u8 4, .int .i64 (flN c), .string ⟨#[]⟩]) ∧ Below w.heap.size w w' := by
  by_cases h1 : c < 1
  · have H : Hid (flN c = 2) := if_neg (by omega)
    generalize flN c = r at *
    go_enter Tryz.func83, Tryz.ntmps83
    go_wp2_with fail
    refine bodyPost_ret (v := .agg #[.int .u8 4, .int .i64 2, .string ⟨#[]⟩]) (by simp [results, Tryz.results83, go_sem]) rfl ⟨by rw [H.out], valloc _ _⟩
  · by_cases h2 : 7 < c
    · have H : Hid (flN c = 2) := if_neg (by omega)
      generalize flN c = r at *
      go_enter Tryz.func83, Tryz.ntmps83
      go_wp2_with fail
      refine bodyPost_ret (v := .agg #[.int .u8 4, .int .i64 2, .string ⟨#[]⟩]) (by simp [results, Tryz.results83, go_sem]) rfl ⟨by rw [H.out], valloc _ _⟩
    · have H : Hid (flN c = c) := if_pos (by omega)
      generalize flN c = r at *
      go_enter Tryz.func83, Tryz.ntmps83
      go_wp2_with fail
      refine bodyPost_ret (v := .agg #[.int .u8 4, .int .i64 c, .string ⟨#[]⟩]) (by simp [results, Tryz.results83, go_sem]) rfl ⟨by rw [H.out], valloc _ _⟩
def mkK (n : Int) : Nat := if n = leastI then 4 else 1
def mkN (n : Int) : Int := if n = leastI then 3 else n
theorem make_any (n : Int) (w : World) : Calls Tryz.prog 59 #[.int .i64 n] w fun e w' => e = .returned (.agg #[.int .u8 (mkK n : Int), .int .i64 (mkN n), .string ⟨#[]⟩]) ∧ Below w.heap.size w w' := by
  have HX : Hid (B3 (w.alloc (.cells #[.int .u8 0, .int .i64 0, .string ⟨#[]⟩] 23)) w.heap.size 0 0 ⟨#[]⟩) := B3.start w 0 0 ⟨#[]⟩
  have HW := Lib.hid (valloc w (.cells #[.int .u8 0, .int .i64 0, .string ⟨#[]⟩] 23))
  by_cases h : n = -9223372036854775808
  · have H1 : Hid (mkK n = 4) := if_pos h
    have H2 : Hid (mkN n = 3) := if_pos h
    have HF : Hid (flN 3 = 3) := rfl
    generalize mkK n = x at *
    generalize mkN n = y at *
    subst h
    go_enter Tryz.func59, Tryz.ntmps59
    go_wp2_with fail
    generalize w.alloc (.cells #[.int .u8 0, .int .i64 0, .string ⟨#[]⟩] 23) = wa at *
    refine (fail_any 3 _).mono ?_
    rw [HF.out]
    rintro e w1 ⟨rfl, hB⟩
    have hX : B3 w1 w.heap.size 0 0 ⟨#[]⟩ := HX.out.later hB
    have HBW := Lib.hid (vnext HW.out hB)
    clear hB
    obtain ⟨x0, x1, x2, z0, z1, z2⟩ := hX.cells
    have hXl := hX.lt
    have hq : B3 (((w1.setCell ⟨w.heap.size, 0, none⟩ (.int .u8 4)).setCell ⟨w.heap.size, 1, none⟩ (.int .i64 3)).setCell ⟨w.heap.size, 2, none⟩ (.string ⟨#[]⟩)) w.heap.size 4 3 ⟨#[]⟩ ∧ w1.grownBy (((w1.setCell ⟨w.heap.size, 0, none⟩ (.int .u8 4)).setCell ⟨w.heap.size, 1, none⟩ (.int .i64 3)).setCell ⟨w.heap.size, 2, none⟩ (.string ⟨#[]⟩)) (some (w.heap.size)) := hX.set 4 3 ⟨#[]⟩
    have hb5 := HBW.out.grown hq.2 HBW.out.size (fun q hq => by injection hq with hq; omega)
    obtain ⟨hq, _⟩ := hq
    go_wp2_with fail
    generalize ((w1.setCell ⟨w.heap.size, 0, none⟩ (.int .u8 4)).setCell ⟨w.heap.size, 1, none⟩ (.int .i64 3)).setCell ⟨w.heap.size, 2, none⟩ (.string ⟨#[]⟩) = w5 at *
    obtain ⟨y0, y1, y2, _, _, _⟩ := hq.cells
    refine bodyPost_ret (v := .agg #[.int .u8 4, .int .i64 3, .string ⟨#[]⟩]) (by simp [results, Tryz.results59, go_sem, y0, y1, y2]) rfl ⟨by rw [H1.out, H2.out]; rfl, hb5⟩
  · have H1 : Hid (mkK n = 1) := if_neg h
    have H2 : Hid (mkN n = n) := if_neg h
    have h2 : (n == -9223372036854775808) = false := by simpa using h
    generalize mkK n = x at *
    generalize mkN n = y at *
    clear h HX HW
    go_enter Tryz.func59, Tryz.ntmps59
    go_wp2_with fail
    refine bodyPost_ret (v := .agg #[.int .u8 1, .int .i64 n, .string ⟨#[]⟩]) (by simp [results, Tryz.results59, go_sem]) rfl ⟨by rw [H1.out, H2.out]; rfl, valloc _ _⟩
def b2i (b : Bool) : Int := if b then 1 else 0
theorem truth_any (b : Bool) (w : World) : Calls Tryz.prog 119 #[.bool b] w fun e w' => e = .returned (.agg #[.int .u8 2, .int .i64 (b2i b), .string ⟨#[]⟩]) ∧ Below w.heap.size w w' := by
  cases b
  · have H : Hid (b2i false = 0) := rfl
    generalize b2i false = x at *
    go_enter Tryz.func119, Tryz.ntmps119
    go_wp2_with fail
    refine bodyPost_ret (v := .agg #[.int .u8 2, .int .i64 0, .string ⟨#[]⟩]) (by simp [results, Tryz.results119, go_sem]) rfl ⟨by rw [H.out], valloc _ _⟩
  · have H : Hid (b2i true = 1) := rfl
    generalize b2i true = x at *
    go_enter Tryz.func119, Tryz.ntmps119
    go_wp2_with fail
    refine bodyPost_ret (v := .agg #[.int .u8 2, .int .i64 1, .string ⟨#[]⟩]) (by simp [results, Tryz.results119, go_sem]) rfl ⟨by rw [H.out], valloc _ _⟩
set_option maxRecDepth 100000 in
theorem conv_maps (w1 : World) (a b c x1 x2 x3 : Value) : ∃ W3 W4 W5 : World,
    (Instr.mapUpdate 100 (.map (some (w1.heap.size + 1))) (.int .u8 1) x1).run Tryz.prog ((w1.alloc (.cells #[a, b, c] 98)).alloc (.map #[] 0)) = .ok () W3 ∧
    (Instr.mapUpdate 100 (.map (some (w1.heap.size + 1))) (.int .u8 3) x2).run Tryz.prog W3 = .ok () W4 ∧
    (Instr.mapUpdate 100 (.map (some (w1.heap.size + 1))) (.int .u8 2) x3).run Tryz.prog W4 = .ok () W5 ∧
    (Instr.lookup 100 (.map (some (w1.heap.size + 1))) (.int .u8 1) false).run Tryz.prog W5 = .ok x1 W5 ∧
    (Instr.lookup 100 (.map (some (w1.heap.size + 1))) (.int .u8 3) false).run Tryz.prog W5 = .ok x2 W5 ∧
    (Instr.lookup 100 (.map (some (w1.heap.size + 1))) (.int .u8 2) false).run Tryz.prog W5 = .ok x3 W5 ∧
    (W3.cell? ⟨w1.heap.size, 0, none⟩ = some a ∧ W3.cell? ⟨w1.heap.size, 1, none⟩ = some b ∧ W3.cell? ⟨w1.heap.size, 2, none⟩ = some c) ∧
    (W4.cell? ⟨w1.heap.size, 0, none⟩ = some a ∧ W4.cell? ⟨w1.heap.size, 1, none⟩ = some b ∧ W4.cell? ⟨w1.heap.size, 2, none⟩ = some c) ∧ Below w1.heap.size w1 W5 := by
  have hu : Tryz.prog.underlying 100 = some (.map 5 99) := rfl
  have hk : Tryz.prog.underlying 5 = some (.int .u8) := rfl
  have hs : ((w1.alloc (.cells #[a, b, c] 98)).alloc (.map #[] 0)).heap.size = w1.heap.size + 2 := by simp
  have h2 : ((w1.alloc (.cells #[a, b, c] 98)).alloc (.map #[] 0)).heap[w1.heap.size + 1]? = some (.map #[] 0) := by
    have := World.alloc_heap_new (w1.alloc (.cells #[a, b, c] 98)) (.map #[] 0)
    rwa [World.size_alloc] at this
  have hc : ((w1.alloc (.cells #[a, b, c] 98)).alloc (.map #[] 0)).heap[w1.heap.size]? = some (.cells #[a, b, c] 98) := by
    exact ((valloc (w1.alloc (.cells #[a, b, c] 98)) (.map #[] 0)).block w1.heap.size (by simp)).trans (World.alloc_heap_new _ _)
  have hB : Below w1.heap.size w1 ((w1.alloc (.cells #[a, b, c] 98)).alloc (.map #[] 0)) := vnext (valloc _ _) (valloc _ _)
  generalize (w1.alloc (.cells #[a, b, c] 98)).alloc (.map #[] 0) = W2 at *
  have put : ∀ (W : World) (o : Obj), W.heap.size = w1.heap.size + 2 → (W.putObj (w1.heap.size + 1) o).heap[w1.heap.size + 1]? = some o ∧ (W.putObj (w1.heap.size + 1) o).heap[w1.heap.size]? = W.heap[w1.heap.size]? ∧ (W.putObj (w1.heap.size + 1) o).heap.size = w1.heap.size + 2 :=
    fun W o h => ⟨World.putObj_heap_same (by omega), World.putObj_heap_other (by omega), by simp [h]⟩
  have r1 := run_mapNew hu hk h2 1 x1 rfl
  obtain ⟨h3, c3, s3⟩ := put W2 (.map #[{ key := .int .u8 1, val := x1, born := 0 }] 1) hs
  have r2 := run_mapNew hu hk h3 3 x2 rfl
  obtain ⟨h4, c4, s4⟩ := put _ (.map #[{ key := .int .u8 1, val := x1, born := 0 }, { key := .int .u8 3, val := x2, born := 1 }] 2) s3
  have r3 := run_mapNew hu hk h4 2 x3 rfl
  obtain ⟨h5, c5, s5⟩ := put _ (.map #[{ key := .int .u8 1, val := x1, born := 0 }, { key := .int .u8 3, val := x2, born := 1 }, { key := .int .u8 2, val := x3, born := 2 }] 3) s4
  refine ⟨_, _, _, r1, r2, r3, run_lookAt (kt := 5) (et := 99) hu hk h5 1 (j := 0) rfl, run_lookAt (kt := 5) (et := 99) hu hk h5 3 (j := 1) rfl, run_lookAt (kt := 5) (et := 99) hu hk h5 2 (j := 2) rfl, ?_, ?_, ?_⟩
  · have := c3.trans hc
    exact ⟨by simp [World.cell?, this], by simp [World.cell?, this], by simp [World.cell?, this]⟩
  · have := c4.trans (c3.trans hc)
    exact ⟨by simp [World.cell?, this], by simp [World.cell?, this], by simp [World.cell?, this]⟩
  · have pb : ∀ (W : World) (o : Obj), W.heap.size = w1.heap.size + 2 → Below w1.heap.size W (W.putObj (w1.heap.size + 1) o) := fun W o h => (Below.refl _ W).grown (grownBy_putObj' W _ o) (by omega) (fun k e => by cases e; omega)
    exact hB.trans ((pb _ _ hs).trans ((pb _ _ s3).trans (pb _ _ s4)))
end Go.Proofs.YtdanbabamcdebaaGreatDoor.Va
