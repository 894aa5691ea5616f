/- The table of the functions of ftext. -/
import Derived.Test.YtfjefanhkbcfgaaGreatDoorFtB
import Derived.Test.YtfjefanhkbcfgaaGreatDoorMgi
namespace Go.Proofs.YtfjefanhkbcfgaaGreatDoor.Va
open Go Go.RowKit GM
set_option linter.unusedVariables false
set_option linter.unusedSimpArgs false
/-- The table as it lies when it is full. -/
def FTab (W : World) (q : Nat) (a b : Value) : Prop := W.heap[q]? = some (.map #[{ key := .int .u8 31, val := .func (.func 105) #[.agg #[a, b]] #[], born := 0 }, { key := .int .u8 32, val := .func (.func 106) #[.agg #[a, b]] #[], born := 1 }, { key := .int .u8 33, val := .func (.func 107) #[.agg #[a, b]] #[], born := 2 }, { key := .int .u8 34, val := .func (.func 108) #[.agg #[a, b]] #[], born := 3 }, { key := .int .u8 35, val := .func (.func 109) #[.agg #[a, b]] #[], born := 4 }, { key := .int .u8 36, val := .func (.func 110) #[.agg #[a, b]] #[], born := 5 }, { key := .int .u8 37, val := .func (.func 111) #[.agg #[a, b]] #[], born := 6 }, { key := .int .u8 38, val := .func (.func 112) #[.agg #[a, b]] #[], born := 7 }, { key := .int .u8 39, val := .func (.func 113) #[.agg #[a, b]] #[], born := 8 }, { key := .int .u8 40, val := .func (.func 114) #[.agg #[a, b]] #[], born := 9 }, { key := .int .u8 41, val := .func (.func 115) #[.agg #[a, b]] #[], born := 10 }, { key := .int .u8 42, val := .func (.func 116) #[.agg #[a, b]] #[], born := 11 }] 12)
set_option maxRecDepth 100000 in
set_option maxHeartbeats 3200000 in
theorem fmaps (w : World) (a b : Value) : ∃ V1 V2 V3 V4 V5 V6 V7 V8 V9 V10 V11 V12 : World,
    (Instr.mapUpdate 66 (.map (some (w.heap.size + 1))) (.int .u8 31) (.func (.func 105) #[.agg #[a, b]] #[])).run Tryz.prog ((w.alloc (.cells #[a, b] 62)).alloc (.map #[] 0)) = .ok () V1 ∧
    (Instr.mapUpdate 66 (.map (some (w.heap.size + 1))) (.int .u8 32) (.func (.func 106) #[.agg #[a, b]] #[])).run Tryz.prog V1 = .ok () V2 ∧
    (Instr.mapUpdate 66 (.map (some (w.heap.size + 1))) (.int .u8 33) (.func (.func 107) #[.agg #[a, b]] #[])).run Tryz.prog V2 = .ok () V3 ∧
    (Instr.mapUpdate 66 (.map (some (w.heap.size + 1))) (.int .u8 34) (.func (.func 108) #[.agg #[a, b]] #[])).run Tryz.prog V3 = .ok () V4 ∧
    (Instr.mapUpdate 66 (.map (some (w.heap.size + 1))) (.int .u8 35) (.func (.func 109) #[.agg #[a, b]] #[])).run Tryz.prog V4 = .ok () V5 ∧
    (Instr.mapUpdate 66 (.map (some (w.heap.size + 1))) (.int .u8 36) (.func (.func 110) #[.agg #[a, b]] #[])).run Tryz.prog V5 = .ok () V6 ∧
    (Instr.mapUpdate 66 (.map (some (w.heap.size + 1))) (.int .u8 37) (.func (.func 111) #[.agg #[a, b]] #[])).run Tryz.prog V6 = .ok () V7 ∧
    (Instr.mapUpdate 66 (.map (some (w.heap.size + 1))) (.int .u8 38) (.func (.func 112) #[.agg #[a, b]] #[])).run Tryz.prog V7 = .ok () V8 ∧
    (Instr.mapUpdate 66 (.map (some (w.heap.size + 1))) (.int .u8 39) (.func (.func 113) #[.agg #[a, b]] #[])).run Tryz.prog V8 = .ok () V9 ∧
    (Instr.mapUpdate 66 (.map (some (w.heap.size + 1))) (.int .u8 40) (.func (.func 114) #[.agg #[a, b]] #[])).run Tryz.prog V9 = .ok () V10 ∧
    (Instr.mapUpdate 66 (.map (some (w.heap.size + 1))) (.int .u8 41) (.func (.func 115) #[.agg #[a, b]] #[])).run Tryz.prog V10 = .ok () V11 ∧
    (Instr.mapUpdate 66 (.map (some (w.heap.size + 1))) (.int .u8 42) (.func (.func 116) #[.agg #[a, b]] #[])).run Tryz.prog V11 = .ok () V12 ∧
    (V1.cell? ⟨w.heap.size, 0, none⟩ = some a ∧ V1.cell? ⟨w.heap.size, 1, none⟩ = some b) ∧
    (V2.cell? ⟨w.heap.size, 0, none⟩ = some a ∧ V2.cell? ⟨w.heap.size, 1, none⟩ = some b) ∧
    (V3.cell? ⟨w.heap.size, 0, none⟩ = some a ∧ V3.cell? ⟨w.heap.size, 1, none⟩ = some b) ∧
    (V4.cell? ⟨w.heap.size, 0, none⟩ = some a ∧ V4.cell? ⟨w.heap.size, 1, none⟩ = some b) ∧
    (V5.cell? ⟨w.heap.size, 0, none⟩ = some a ∧ V5.cell? ⟨w.heap.size, 1, none⟩ = some b) ∧
    (V6.cell? ⟨w.heap.size, 0, none⟩ = some a ∧ V6.cell? ⟨w.heap.size, 1, none⟩ = some b) ∧
    (V7.cell? ⟨w.heap.size, 0, none⟩ = some a ∧ V7.cell? ⟨w.heap.size, 1, none⟩ = some b) ∧
    (V8.cell? ⟨w.heap.size, 0, none⟩ = some a ∧ V8.cell? ⟨w.heap.size, 1, none⟩ = some b) ∧
    (V9.cell? ⟨w.heap.size, 0, none⟩ = some a ∧ V9.cell? ⟨w.heap.size, 1, none⟩ = some b) ∧
    (V10.cell? ⟨w.heap.size, 0, none⟩ = some a ∧ V10.cell? ⟨w.heap.size, 1, none⟩ = some b) ∧
    (V11.cell? ⟨w.heap.size, 0, none⟩ = some a ∧ V11.cell? ⟨w.heap.size, 1, none⟩ = some b) ∧
    FTab V12 (w.heap.size + 1) a b ∧ Below w.heap.size w V12 := by
  have hu : Tryz.prog.underlying 66 = some (.map 5 65) := rfl
  have hk : Tryz.prog.underlying 5 = some (.int .u8) := rfl
  have hs : ((w.alloc (.cells #[a, b] 62)).alloc (.map #[] 0)).heap.size = w.heap.size + 2 := by simp
  have h0 : ((w.alloc (.cells #[a, b] 62)).alloc (.map #[] 0)).heap[w.heap.size + 1]? = some (.map #[] 0) := by
    have := World.alloc_heap_new (w.alloc (.cells #[a, b] 62)) (.map #[] 0)
    rwa [World.size_alloc] at this
  have c0 : ((w.alloc (.cells #[a, b] 62)).alloc (.map #[] 0)).heap[w.heap.size]? = some (.cells #[a, b] 62) := by
    exact ((valloc (w.alloc (.cells #[a, b] 62)) (.map #[] 0)).block w.heap.size (by simp)).trans (World.alloc_heap_new _ _)
  have hB : Below w.heap.size w ((w.alloc (.cells #[a, b] 62)).alloc (.map #[] 0)) := vnext (valloc _ _) (valloc _ _)
  generalize ((w.alloc (.cells #[a, b] 62)).alloc (.map #[] 0)) = U0 at *
  have put : ∀ (W : World) (o : Obj), W.heap.size = w.heap.size + 2 → (W.putObj (w.heap.size + 1) o).heap[w.heap.size + 1]? = some o ∧ (W.putObj (w.heap.size + 1) o).heap[w.heap.size]? = W.heap[w.heap.size]? ∧ (W.putObj (w.heap.size + 1) o).heap.size = w.heap.size + 2 :=
    fun W o h => ⟨World.putObj_heap_same (by omega), World.putObj_heap_other (by omega), by simp [h]⟩
  have pb : ∀ (W : World) (o : Obj), W.heap.size = w.heap.size + 2 → Below w.heap.size W (W.putObj (w.heap.size + 1) o) := fun W o h => (Below.refl _ W).grown (grownBy_putObj' W _ o) (by omega) (fun k e => by cases e; omega)
  have s0 := hs
  have cc : ∀ (W : World), W.heap[w.heap.size]? = some (.cells #[a, b] 62) → W.cell? ⟨w.heap.size, 0, none⟩ = some a ∧ W.cell? ⟨w.heap.size, 1, none⟩ = some b := fun W h => ⟨by simp [World.cell?, h], by simp [World.cell?, h]⟩
  have r1 := run_mapNew hu hk h0 31 (.func (.func 105) #[.agg #[a, b]] #[]) rfl
  obtain ⟨h1, c1, s1⟩ := put U0 (.map #[{ key := .int .u8 31, val := .func (.func 105) #[.agg #[a, b]] #[], born := 0 }] 1) s0
  have p1 := pb U0 (.map #[{ key := .int .u8 31, val := .func (.func 105) #[.agg #[a, b]] #[], born := 0 }] 1) s0
  rw [c0] at c1
  generalize hU1 : U0.putObj (w.heap.size + 1) (.map #[{ key := .int .u8 31, val := .func (.func 105) #[.agg #[a, b]] #[], born := 0 }] 1) = U1 at *
  replace r1 : (Instr.mapUpdate 66 (.map (some (w.heap.size + 1))) (.int .u8 31) (.func (.func 105) #[.agg #[a, b]] #[])).run Tryz.prog U0 = .ok () U1 := by rw [← hU1]; exact r1
  clear hU1
  have r2 := run_mapNew hu hk h1 32 (.func (.func 106) #[.agg #[a, b]] #[]) rfl
  obtain ⟨h2, c2, s2⟩ := put U1 (.map #[{ key := .int .u8 31, val := .func (.func 105) #[.agg #[a, b]] #[], born := 0 }, { key := .int .u8 32, val := .func (.func 106) #[.agg #[a, b]] #[], born := 1 }] 2) s1
  have p2 := pb U1 (.map #[{ key := .int .u8 31, val := .func (.func 105) #[.agg #[a, b]] #[], born := 0 }, { key := .int .u8 32, val := .func (.func 106) #[.agg #[a, b]] #[], born := 1 }] 2) s1
  rw [c1] at c2
  generalize hU2 : U1.putObj (w.heap.size + 1) (.map #[{ key := .int .u8 31, val := .func (.func 105) #[.agg #[a, b]] #[], born := 0 }, { key := .int .u8 32, val := .func (.func 106) #[.agg #[a, b]] #[], born := 1 }] 2) = U2 at *
  replace r2 : (Instr.mapUpdate 66 (.map (some (w.heap.size + 1))) (.int .u8 32) (.func (.func 106) #[.agg #[a, b]] #[])).run Tryz.prog U1 = .ok () U2 := by rw [← hU2]; exact r2
  clear hU2
  have r3 := run_mapNew hu hk h2 33 (.func (.func 107) #[.agg #[a, b]] #[]) rfl
  obtain ⟨h3, c3, s3⟩ := put U2 (.map #[{ key := .int .u8 31, val := .func (.func 105) #[.agg #[a, b]] #[], born := 0 }, { key := .int .u8 32, val := .func (.func 106) #[.agg #[a, b]] #[], born := 1 }, { key := .int .u8 33, val := .func (.func 107) #[.agg #[a, b]] #[], born := 2 }] 3) s2
  have p3 := pb U2 (.map #[{ key := .int .u8 31, val := .func (.func 105) #[.agg #[a, b]] #[], born := 0 }, { key := .int .u8 32, val := .func (.func 106) #[.agg #[a, b]] #[], born := 1 }, { key := .int .u8 33, val := .func (.func 107) #[.agg #[a, b]] #[], born := 2 }] 3) s2
  rw [c2] at c3
  generalize hU3 : U2.putObj (w.heap.size + 1) (.map #[{ key := .int .u8 31, val := .func (.func 105) #[.agg #[a, b]] #[], born := 0 }, { key := .int .u8 32, val := .func (.func 106) #[.agg #[a, b]] #[], born := 1 }, { key := .int .u8 33, val := .func (.func 107) #[.agg #[a, b]] #[], born := 2 }] 3) = U3 at *
  replace r3 : (Instr.mapUpdate 66 (.map (some (w.heap.size + 1))) (.int .u8 33) (.func (.func 107) #[.agg #[a, b]] #[])).run Tryz.prog U2 = .ok () U3 := by rw [← hU3]; exact r3
  clear hU3
  have r4 := run_mapNew hu hk h3 34 (.func (.func 108) #[.agg #[a, b]] #[]) rfl
  obtain ⟨h4, c4, s4⟩ := put U3 (.map #[{ key := .int .u8 31, val := .func (.func 105) #[.agg #[a, b]] #[], born := 0 }, { key := .int .u8 32, val := .func (.func 106) #[.agg #[a, b]] #[], born := 1 }, { key := .int .u8 33, val := .func (.func 107) #[.agg #[a, b]] #[], born := 2 }, { key := .int .u8 34, val := .func (.func 108) #[.agg #[a, b]] #[], born := 3 }] 4) s3
  have p4 := pb U3 (.map #[{ key := .int .u8 31, val := .func (.func 105) #[.agg #[a, b]] #[], born := 0 }, { key := .int .u8 32, val := .func (.func 106) #[.agg #[a, b]] #[], born := 1 }, { key := .int .u8 33, val := .func (.func 107) #[.agg #[a, b]] #[], born := 2 }, { key := .int .u8 34, val := .func (.func 108) #[.agg #[a, b]] #[], born := 3 }] 4) s3
  rw [c3] at c4
  generalize hU4 : U3.putObj (w.heap.size + 1) (.map #[{ key := .int .u8 31, val := .func (.func 105) #[.agg #[a, b]] #[], born := 0 }, { key := .int .u8 32, val := .func (.func 106) #[.agg #[a, b]] #[], born := 1 }, { key := .int .u8 33, val := .func (.func 107) #[.agg #[a, b]] #[], born := 2 }, { key := .int .u8 34, val := .func (.func 108) #[.agg #[a, b]] #[], born := 3 }] 4) = U4 at *
  replace r4 : (Instr.mapUpdate 66 (.map (some (w.heap.size + 1))) (.int .u8 34) (.func (.func 108) #[.agg #[a, b]] #[])).run Tryz.prog U3 = .ok () U4 := by rw [← hU4]; exact r4
  clear hU4
  have r5 := run_mapNew hu hk h4 35 (.func (.func 109) #[.agg #[a, b]] #[]) rfl
  obtain ⟨h5, c5, s5⟩ := put U4 (.map #[{ key := .int .u8 31, val := .func (.func 105) #[.agg #[a, b]] #[], born := 0 }, { key := .int .u8 32, val := .func (.func 106) #[.agg #[a, b]] #[], born := 1 }, { key := .int .u8 33, val := .func (.func 107) #[.agg #[a, b]] #[], born := 2 }, { key := .int .u8 34, val := .func (.func 108) #[.agg #[a, b]] #[], born := 3 }, { key := .int .u8 35, val := .func (.func 109) #[.agg #[a, b]] #[], born := 4 }] 5) s4
  have p5 := pb U4 (.map #[{ key := .int .u8 31, val := .func (.func 105) #[.agg #[a, b]] #[], born := 0 }, { key := .int .u8 32, val := .func (.func 106) #[.agg #[a, b]] #[], born := 1 }, { key := .int .u8 33, val := .func (.func 107) #[.agg #[a, b]] #[], born := 2 }, { key := .int .u8 34, val := .func (.func 108) #[.agg #[a, b]] #[], born := 3 }, { key := .int .u8 35, val := .func (.func 109) #[.agg #[a, b]] #[], born := 4 }] 5) s4
  rw [c4] at c5
  generalize hU5 : U4.putObj (w.heap.size + 1) (.map #[{ key := .int .u8 31, val := .func (.func 105) #[.agg #[a, b]] #[], born := 0 }, { key := .int .u8 32, val := .func (.func 106) #[.agg #[a, b]] #[], born := 1 }, { key := .int .u8 33, val := .func (.func 107) #[.agg #[a, b]] #[], born := 2 }, { key := .int .u8 34, val := .func (.func 108) #[.agg #[a, b]] #[], born := 3 }, { key := .int .u8 35, val := .func (.func 109) #[.agg #[a, b]] #[], born := 4 }] 5) = U5 at *
  replace r5 : (Instr.mapUpdate 66 (.map (some (w.heap.size + 1))) (.int .u8 35) (.func (.func 109) #[.agg #[a, b]] #[])).run Tryz.prog U4 = .ok () U5 := by rw [← hU5]; exact r5
  clear hU5
  have r6 := run_mapNew hu hk h5 36 (.func (.func 110) #[.agg #[a, b]] #[]) rfl
  obtain ⟨h6, c6, s6⟩ := put U5 (.map #[{ key := .int .u8 31, val := .func (.func 105) #[.agg #[a, b]] #[], born := 0 }, { key := .int .u8 32, val := .func (.func 106) #[.agg #[a, b]] #[], born := 1 }, { key := .int .u8 33, val := .func (.func 107) #[.agg #[a, b]] #[], born := 2 }, { key := .int .u8 34, val := .func (.func 108) #[.agg #[a, b]] #[], born := 3 }, { key := .int .u8 35, val := .func (.func 109) #[.agg #[a, b]] #[], born := 4 }, { key := .int .u8 36, val := .func (.func 110) #[.agg #[a, b]] #[], born := 5 }] 6) s5
  have p6 := pb U5 (.map #[{ key := .int .u8 31, val := .func (.func 105) #[.agg #[a, b]] #[], born := 0 }, { key := .int .u8 32, val := .func (.func 106) #[.agg #[a, b]] #[], born := 1 }, { key := .int .u8 33, val := .func (.func 107) #[.agg #[a, b]] #[], born := 2 }, { key := .int .u8 34, val := .func (.func 108) #[.agg #[a, b]] #[], born := 3 }, { key := .int .u8 35, val := .func (.func 109) #[.agg #[a, b]] #[], born := 4 }, { key := .int .u8 36, val := .func (.func 110) #[.agg #[a, b]] #[], born := 5 }] 6) s5
  rw [c5] at c6
  generalize hU6 : U5.putObj (w.heap.size + 1) (.map #[{ key := .int .u8 31, val := .func (.func 105) #[.agg #[a, b]] #[], born := 0 }, { key := .int .u8 32, val := .func (.func 106) #[.agg #[a, b]] #[], born := 1 }, { key := .int .u8 33, val := .func (.func 107) #[.agg #[a, b]] #[], born := 2 }, { key := .int .u8 34, val := .func (.func 108) #[.agg #[a, b]] #[], born := 3 }, { key := .int .u8 35, val := .func (.func 109) #[.agg #[a, b]] #[], born := 4 }, { key := .int .u8 36, val := .func (.func 110) #[.agg #[a, b]] #[], born := 5 }] 6) = U6 at *
  replace r6 : (Instr.mapUpdate 66 (.map (some (w.heap.size + 1))) (.int .u8 36) (.func (.func 110) #[.agg #[a, b]] #[])).run Tryz.prog U5 = .ok () U6 := by rw [← hU6]; exact r6
  clear hU6
  have r7 := run_mapNew hu hk h6 37 (.func (.func 111) #[.agg #[a, b]] #[]) rfl
  obtain ⟨h7, c7, s7⟩ := put U6 (.map #[{ key := .int .u8 31, val := .func (.func 105) #[.agg #[a, b]] #[], born := 0 }, { key := .int .u8 32, val := .func (.func 106) #[.agg #[a, b]] #[], born := 1 }, { key := .int .u8 33, val := .func (.func 107) #[.agg #[a, b]] #[], born := 2 }, { key := .int .u8 34, val := .func (.func 108) #[.agg #[a, b]] #[], born := 3 }, { key := .int .u8 35, val := .func (.func 109) #[.agg #[a, b]] #[], born := 4 }, { key := .int .u8 36, val := .func (.func 110) #[.agg #[a, b]] #[], born := 5 }, { key := .int .u8 37, val := .func (.func 111) #[.agg #[a, b]] #[], born := 6 }] 7) s6
  have p7 := pb U6 (.map #[{ key := .int .u8 31, val := .func (.func 105) #[.agg #[a, b]] #[], born := 0 }, { key := .int .u8 32, val := .func (.func 106) #[.agg #[a, b]] #[], born := 1 }, { key := .int .u8 33, val := .func (.func 107) #[.agg #[a, b]] #[], born := 2 }, { key := .int .u8 34, val := .func (.func 108) #[.agg #[a, b]] #[], born := 3 }, { key := .int .u8 35, val := .func (.func 109) #[.agg #[a, b]] #[], born := 4 }, { key := .int .u8 36, val := .func (.func 110) #[.agg #[a, b]] #[], born := 5 }, { key := .int .u8 37, val := .func (.func 111) #[.agg #[a, b]] #[], born := 6 }] 7) s6
  rw [c6] at c7
  generalize hU7 : U6.putObj (w.heap.size + 1) (.map #[{ key := .int .u8 31, val := .func (.func 105) #[.agg #[a, b]] #[], born := 0 }, { key := .int .u8 32, val := .func (.func 106) #[.agg #[a, b]] #[], born := 1 }, { key := .int .u8 33, val := .func (.func 107) #[.agg #[a, b]] #[], born := 2 }, { key := .int .u8 34, val := .func (.func 108) #[.agg #[a, b]] #[], born := 3 }, { key := .int .u8 35, val := .func (.func 109) #[.agg #[a, b]] #[], born := 4 }, { key := .int .u8 36, val := .func (.func 110) #[.agg #[a, b]] #[], born := 5 }, { key := .int .u8 37, val := .func (.func 111) #[.agg #[a, b]] #[], born := 6 }] 7) = U7 at *
  replace r7 : (Instr.mapUpdate 66 (.map (some (w.heap.size + 1))) (.int .u8 37) (.func (.func 111) #[.agg #[a, b]] #[])).run Tryz.prog U6 = .ok () U7 := by rw [← hU7]; exact r7
  clear hU7
  have r8 := run_mapNew hu hk h7 38 (.func (.func 112) #[.agg #[a, b]] #[]) rfl
  obtain ⟨h8, c8, s8⟩ := put U7 (.map #[{ key := .int .u8 31, val := .func (.func 105) #[.agg #[a, b]] #[], born := 0 }, { key := .int .u8 32, val := .func (.func 106) #[.agg #[a, b]] #[], born := 1 }, { key := .int .u8 33, val := .func (.func 107) #[.agg #[a, b]] #[], born := 2 }, { key := .int .u8 34, val := .func (.func 108) #[.agg #[a, b]] #[], born := 3 }, { key := .int .u8 35, val := .func (.func 109) #[.agg #[a, b]] #[], born := 4 }, { key := .int .u8 36, val := .func (.func 110) #[.agg #[a, b]] #[], born := 5 }, { key := .int .u8 37, val := .func (.func 111) #[.agg #[a, b]] #[], born := 6 }, { key := .int .u8 38, val := .func (.func 112) #[.agg #[a, b]] #[], born := 7 }] 8) s7
  have p8 := pb U7 (.map #[{ key := .int .u8 31, val := .func (.func 105) #[.agg #[a, b]] #[], born := 0 }, { key := .int .u8 32, val := .func (.func 106) #[.agg #[a, b]] #[], born := 1 }, { key := .int .u8 33, val := .func (.func 107) #[.agg #[a, b]] #[], born := 2 }, { key := .int .u8 34, val := .func (.func 108) #[.agg #[a, b]] #[], born := 3 }, { key := .int .u8 35, val := .func (.func 109) #[.agg #[a, b]] #[], born := 4 }, { key := .int .u8 36, val := .func (.func 110) #[.agg #[a, b]] #[], born := 5 }, { key := .int .u8 37, val := .func (.func 111) #[.agg #[a, b]] #[], born := 6 }, { key := .int .u8 38, val := .func (.func 112) #[.agg #[a, b]] #[], born := 7 }] 8) s7
  rw [c7] at c8
  generalize hU8 : U7.putObj (w.heap.size + 1) (.map #[{ key := .int .u8 31, val := .func (.func 105) #[.agg #[a, b]] #[], born := 0 }, { key := .int .u8 32, val := .func (.func 106) #[.agg #[a, b]] #[], born := 1 }, { key := .int .u8 33, val := .func (.func 107) #[.agg #[a, b]] #[], born := 2 }, { key := .int .u8 34, val := .func (.func 108) #[.agg #[a, b]] #[], born := 3 }, { key := .int .u8 35, val := .func (.func 109) #[.agg #[a, b]] #[], born := 4 }, { key := .int .u8 36, val := .func (.func 110) #[.agg #[a, b]] #[], born := 5 }, { key := .int .u8 37, val := .func (.func 111) #[.agg #[a, b]] #[], born := 6 }, { key := .int .u8 38, val := .func (.func 112) #[.agg #[a, b]] #[], born := 7 }] 8) = U8 at *
  replace r8 : (Instr.mapUpdate 66 (.map (some (w.heap.size + 1))) (.int .u8 38) (.func (.func 112) #[.agg #[a, b]] #[])).run Tryz.prog U7 = .ok () U8 := by rw [← hU8]; exact r8
  clear hU8
  have r9 := run_mapNew hu hk h8 39 (.func (.func 113) #[.agg #[a, b]] #[]) rfl
  obtain ⟨h9, c9, s9⟩ := put U8 (.map #[{ key := .int .u8 31, val := .func (.func 105) #[.agg #[a, b]] #[], born := 0 }, { key := .int .u8 32, val := .func (.func 106) #[.agg #[a, b]] #[], born := 1 }, { key := .int .u8 33, val := .func (.func 107) #[.agg #[a, b]] #[], born := 2 }, { key := .int .u8 34, val := .func (.func 108) #[.agg #[a, b]] #[], born := 3 }, { key := .int .u8 35, val := .func (.func 109) #[.agg #[a, b]] #[], born := 4 }, { key := .int .u8 36, val := .func (.func 110) #[.agg #[a, b]] #[], born := 5 }, { key := .int .u8 37, val := .func (.func 111) #[.agg #[a, b]] #[], born := 6 }, { key := .int .u8 38, val := .func (.func 112) #[.agg #[a, b]] #[], born := 7 }, { key := .int .u8 39, val := .func (.func 113) #[.agg #[a, b]] #[], born := 8 }] 9) s8
  have p9 := pb U8 (.map #[{ key := .int .u8 31, val := .func (.func 105) #[.agg #[a, b]] #[], born := 0 }, { key := .int .u8 32, val := .func (.func 106) #[.agg #[a, b]] #[], born := 1 }, { key := .int .u8 33, val := .func (.func 107) #[.agg #[a, b]] #[], born := 2 }, { key := .int .u8 34, val := .func (.func 108) #[.agg #[a, b]] #[], born := 3 }, { key := .int .u8 35, val := .func (.func 109) #[.agg #[a, b]] #[], born := 4 }, { key := .int .u8 36, val := .func (.func 110) #[.agg #[a, b]] #[], born := 5 }, { key := .int .u8 37, val := .func (.func 111) #[.agg #[a, b]] #[], born := 6 }, { key := .int .u8 38, val := .func (.func 112) #[.agg #[a, b]] #[], born := 7 }, { key := .int .u8 39, val := .func (.func 113) #[.agg #[a, b]] #[], born := 8 }] 9) s8
  rw [c8] at c9
  generalize hU9 : U8.putObj (w.heap.size + 1) (.map #[{ key := .int .u8 31, val := .func (.func 105) #[.agg #[a, b]] #[], born := 0 }, { key := .int .u8 32, val := .func (.func 106) #[.agg #[a, b]] #[], born := 1 }, { key := .int .u8 33, val := .func (.func 107) #[.agg #[a, b]] #[], born := 2 }, { key := .int .u8 34, val := .func (.func 108) #[.agg #[a, b]] #[], born := 3 }, { key := .int .u8 35, val := .func (.func 109) #[.agg #[a, b]] #[], born := 4 }, { key := .int .u8 36, val := .func (.func 110) #[.agg #[a, b]] #[], born := 5 }, { key := .int .u8 37, val := .func (.func 111) #[.agg #[a, b]] #[], born := 6 }, { key := .int .u8 38, val := .func (.func 112) #[.agg #[a, b]] #[], born := 7 }, { key := .int .u8 39, val := .func (.func 113) #[.agg #[a, b]] #[], born := 8 }] 9) = U9 at *
  replace r9 : (Instr.mapUpdate 66 (.map (some (w.heap.size + 1))) (.int .u8 39) (.func (.func 113) #[.agg #[a, b]] #[])).run Tryz.prog U8 = .ok () U9 := by rw [← hU9]; exact r9
  clear hU9
  have r10 := run_mapNew hu hk h9 40 (.func (.func 114) #[.agg #[a, b]] #[]) rfl
  obtain ⟨h10, c10, s10⟩ := put U9 (.map #[{ key := .int .u8 31, val := .func (.func 105) #[.agg #[a, b]] #[], born := 0 }, { key := .int .u8 32, val := .func (.func 106) #[.agg #[a, b]] #[], born := 1 }, { key := .int .u8 33, val := .func (.func 107) #[.agg #[a, b]] #[], born := 2 }, { key := .int .u8 34, val := .func (.func 108) #[.agg #[a, b]] #[], born := 3 }, { key := .int .u8 35, val := .func (.func 109) #[.agg #[a, b]] #[], born := 4 }, { key := .int .u8 36, val := .func (.func 110) #[.agg #[a, b]] #[], born := 5 }, { key := .int .u8 37, val := .func (.func 111) #[.agg #[a, b]] #[], born := 6 }, { key := .int .u8 38, val := .func (.func 112) #[.agg #[a, b]] #[], born := 7 }, { key := .int .u8 39, val := .func (.func 113) #[.agg #[a, b]] #[], born := 8 }, { key := .int .u8 40, val := .func (.func 114) #[.agg #[a, b]] #[], born := 9 }] 10) s9
  have p10 := pb U9 (.map #[{ key := .int .u8 31, val := .func (.func 105) #[.agg #[a, b]] #[], born := 0 }, { key := .int .u8 32, val := .func (.func 106) #[.agg #[a, b]] #[], born := 1 }, { key := .int .u8 33, val := .func (.func 107) #[.agg #[a, b]] #[], born := 2 }, { key := .int .u8 34, val := .func (.func 108) #[.agg #[a, b]] #[], born := 3 }, { key := .int .u8 35, val := .func (.func 109) #[.agg #[a, b]] #[], born := 4 }, { key := .int .u8 36, val := .func (.func 110) #[.agg #[a, b]] #[], born := 5 }, { key := .int .u8 37, val := .func (.func 111) #[.agg #[a, b]] #[], born := 6 }, { key := .int .u8 38, val := .func (.func 112) #[.agg #[a, b]] #[], born := 7 }, { key := .int .u8 39, val := .func (.func 113) #[.agg #[a, b]] #[], born := 8 }, { key := .int .u8 40, val := .func (.func 114) #[.agg #[a, b]] #[], born := 9 }] 10) s9
  rw [c9] at c10
  generalize hU10 : U9.putObj (w.heap.size + 1) (.map #[{ key := .int .u8 31, val := .func (.func 105) #[.agg #[a, b]] #[], born := 0 }, { key := .int .u8 32, val := .func (.func 106) #[.agg #[a, b]] #[], born := 1 }, { key := .int .u8 33, val := .func (.func 107) #[.agg #[a, b]] #[], born := 2 }, { key := .int .u8 34, val := .func (.func 108) #[.agg #[a, b]] #[], born := 3 }, { key := .int .u8 35, val := .func (.func 109) #[.agg #[a, b]] #[], born := 4 }, { key := .int .u8 36, val := .func (.func 110) #[.agg #[a, b]] #[], born := 5 }, { key := .int .u8 37, val := .func (.func 111) #[.agg #[a, b]] #[], born := 6 }, { key := .int .u8 38, val := .func (.func 112) #[.agg #[a, b]] #[], born := 7 }, { key := .int .u8 39, val := .func (.func 113) #[.agg #[a, b]] #[], born := 8 }, { key := .int .u8 40, val := .func (.func 114) #[.agg #[a, b]] #[], born := 9 }] 10) = U10 at *
  replace r10 : (Instr.mapUpdate 66 (.map (some (w.heap.size + 1))) (.int .u8 40) (.func (.func 114) #[.agg #[a, b]] #[])).run Tryz.prog U9 = .ok () U10 := by rw [← hU10]; exact r10
  clear hU10
  have r11 := run_mapNew hu hk h10 41 (.func (.func 115) #[.agg #[a, b]] #[]) rfl
  obtain ⟨h11, c11, s11⟩ := put U10 (.map #[{ key := .int .u8 31, val := .func (.func 105) #[.agg #[a, b]] #[], born := 0 }, { key := .int .u8 32, val := .func (.func 106) #[.agg #[a, b]] #[], born := 1 }, { key := .int .u8 33, val := .func (.func 107) #[.agg #[a, b]] #[], born := 2 }, { key := .int .u8 34, val := .func (.func 108) #[.agg #[a, b]] #[], born := 3 }, { key := .int .u8 35, val := .func (.func 109) #[.agg #[a, b]] #[], born := 4 }, { key := .int .u8 36, val := .func (.func 110) #[.agg #[a, b]] #[], born := 5 }, { key := .int .u8 37, val := .func (.func 111) #[.agg #[a, b]] #[], born := 6 }, { key := .int .u8 38, val := .func (.func 112) #[.agg #[a, b]] #[], born := 7 }, { key := .int .u8 39, val := .func (.func 113) #[.agg #[a, b]] #[], born := 8 }, { key := .int .u8 40, val := .func (.func 114) #[.agg #[a, b]] #[], born := 9 }, { key := .int .u8 41, val := .func (.func 115) #[.agg #[a, b]] #[], born := 10 }] 11) s10
  have p11 := pb U10 (.map #[{ key := .int .u8 31, val := .func (.func 105) #[.agg #[a, b]] #[], born := 0 }, { key := .int .u8 32, val := .func (.func 106) #[.agg #[a, b]] #[], born := 1 }, { key := .int .u8 33, val := .func (.func 107) #[.agg #[a, b]] #[], born := 2 }, { key := .int .u8 34, val := .func (.func 108) #[.agg #[a, b]] #[], born := 3 }, { key := .int .u8 35, val := .func (.func 109) #[.agg #[a, b]] #[], born := 4 }, { key := .int .u8 36, val := .func (.func 110) #[.agg #[a, b]] #[], born := 5 }, { key := .int .u8 37, val := .func (.func 111) #[.agg #[a, b]] #[], born := 6 }, { key := .int .u8 38, val := .func (.func 112) #[.agg #[a, b]] #[], born := 7 }, { key := .int .u8 39, val := .func (.func 113) #[.agg #[a, b]] #[], born := 8 }, { key := .int .u8 40, val := .func (.func 114) #[.agg #[a, b]] #[], born := 9 }, { key := .int .u8 41, val := .func (.func 115) #[.agg #[a, b]] #[], born := 10 }] 11) s10
  rw [c10] at c11
  generalize hU11 : U10.putObj (w.heap.size + 1) (.map #[{ key := .int .u8 31, val := .func (.func 105) #[.agg #[a, b]] #[], born := 0 }, { key := .int .u8 32, val := .func (.func 106) #[.agg #[a, b]] #[], born := 1 }, { key := .int .u8 33, val := .func (.func 107) #[.agg #[a, b]] #[], born := 2 }, { key := .int .u8 34, val := .func (.func 108) #[.agg #[a, b]] #[], born := 3 }, { key := .int .u8 35, val := .func (.func 109) #[.agg #[a, b]] #[], born := 4 }, { key := .int .u8 36, val := .func (.func 110) #[.agg #[a, b]] #[], born := 5 }, { key := .int .u8 37, val := .func (.func 111) #[.agg #[a, b]] #[], born := 6 }, { key := .int .u8 38, val := .func (.func 112) #[.agg #[a, b]] #[], born := 7 }, { key := .int .u8 39, val := .func (.func 113) #[.agg #[a, b]] #[], born := 8 }, { key := .int .u8 40, val := .func (.func 114) #[.agg #[a, b]] #[], born := 9 }, { key := .int .u8 41, val := .func (.func 115) #[.agg #[a, b]] #[], born := 10 }] 11) = U11 at *
  replace r11 : (Instr.mapUpdate 66 (.map (some (w.heap.size + 1))) (.int .u8 41) (.func (.func 115) #[.agg #[a, b]] #[])).run Tryz.prog U10 = .ok () U11 := by rw [← hU11]; exact r11
  clear hU11
  have r12 := run_mapNew hu hk h11 42 (.func (.func 116) #[.agg #[a, b]] #[]) rfl
  obtain ⟨h12, c12, s12⟩ := put U11 (.map #[{ key := .int .u8 31, val := .func (.func 105) #[.agg #[a, b]] #[], born := 0 }, { key := .int .u8 32, val := .func (.func 106) #[.agg #[a, b]] #[], born := 1 }, { key := .int .u8 33, val := .func (.func 107) #[.agg #[a, b]] #[], born := 2 }, { key := .int .u8 34, val := .func (.func 108) #[.agg #[a, b]] #[], born := 3 }, { key := .int .u8 35, val := .func (.func 109) #[.agg #[a, b]] #[], born := 4 }, { key := .int .u8 36, val := .func (.func 110) #[.agg #[a, b]] #[], born := 5 }, { key := .int .u8 37, val := .func (.func 111) #[.agg #[a, b]] #[], born := 6 }, { key := .int .u8 38, val := .func (.func 112) #[.agg #[a, b]] #[], born := 7 }, { key := .int .u8 39, val := .func (.func 113) #[.agg #[a, b]] #[], born := 8 }, { key := .int .u8 40, val := .func (.func 114) #[.agg #[a, b]] #[], born := 9 }, { key := .int .u8 41, val := .func (.func 115) #[.agg #[a, b]] #[], born := 10 }, { key := .int .u8 42, val := .func (.func 116) #[.agg #[a, b]] #[], born := 11 }] 12) s11
  have p12 := pb U11 (.map #[{ key := .int .u8 31, val := .func (.func 105) #[.agg #[a, b]] #[], born := 0 }, { key := .int .u8 32, val := .func (.func 106) #[.agg #[a, b]] #[], born := 1 }, { key := .int .u8 33, val := .func (.func 107) #[.agg #[a, b]] #[], born := 2 }, { key := .int .u8 34, val := .func (.func 108) #[.agg #[a, b]] #[], born := 3 }, { key := .int .u8 35, val := .func (.func 109) #[.agg #[a, b]] #[], born := 4 }, { key := .int .u8 36, val := .func (.func 110) #[.agg #[a, b]] #[], born := 5 }, { key := .int .u8 37, val := .func (.func 111) #[.agg #[a, b]] #[], born := 6 }, { key := .int .u8 38, val := .func (.func 112) #[.agg #[a, b]] #[], born := 7 }, { key := .int .u8 39, val := .func (.func 113) #[.agg #[a, b]] #[], born := 8 }, { key := .int .u8 40, val := .func (.func 114) #[.agg #[a, b]] #[], born := 9 }, { key := .int .u8 41, val := .func (.func 115) #[.agg #[a, b]] #[], born := 10 }, { key := .int .u8 42, val := .func (.func 116) #[.agg #[a, b]] #[], born := 11 }] 12) s11
  rw [c11] at c12
  generalize hU12 : U11.putObj (w.heap.size + 1) (.map #[{ key := .int .u8 31, val := .func (.func 105) #[.agg #[a, b]] #[], born := 0 }, { key := .int .u8 32, val := .func (.func 106) #[.agg #[a, b]] #[], born := 1 }, { key := .int .u8 33, val := .func (.func 107) #[.agg #[a, b]] #[], born := 2 }, { key := .int .u8 34, val := .func (.func 108) #[.agg #[a, b]] #[], born := 3 }, { key := .int .u8 35, val := .func (.func 109) #[.agg #[a, b]] #[], born := 4 }, { key := .int .u8 36, val := .func (.func 110) #[.agg #[a, b]] #[], born := 5 }, { key := .int .u8 37, val := .func (.func 111) #[.agg #[a, b]] #[], born := 6 }, { key := .int .u8 38, val := .func (.func 112) #[.agg #[a, b]] #[], born := 7 }, { key := .int .u8 39, val := .func (.func 113) #[.agg #[a, b]] #[], born := 8 }, { key := .int .u8 40, val := .func (.func 114) #[.agg #[a, b]] #[], born := 9 }, { key := .int .u8 41, val := .func (.func 115) #[.agg #[a, b]] #[], born := 10 }, { key := .int .u8 42, val := .func (.func 116) #[.agg #[a, b]] #[], born := 11 }] 12) = U12 at *
  replace r12 : (Instr.mapUpdate 66 (.map (some (w.heap.size + 1))) (.int .u8 42) (.func (.func 116) #[.agg #[a, b]] #[])).run Tryz.prog U11 = .ok () U12 := by rw [← hU12]; exact r12
  clear hU12
  exact ⟨U1, U2, U3, U4, U5, U6, U7, U8, U9, U10, U11, U12, r1, r2, r3, r4, r5, r6, r7, r8, r9, r10, r11, r12, cc _ c1, cc _ c2, cc _ c3, cc _ c4, cc _ c5, cc _ c6, cc _ c7, cc _ c8, cc _ c9, cc _ c10, cc _ c11, h12, ((((((((((((hB).trans p1).trans p2).trans p3).trans p4).trans p5).trans p6).trans p7).trans p8).trans p9).trans p10).trans p11).trans p12⟩
set_option maxRecDepth 100000 in
set_option maxHeartbeats 6400000 in
theorem funcs_any (a b : Value) (ha : a.cells = #[a]) (hb : b.cells = #[b]) (w : World) : Calls Tryz.prog 52 #[.agg #[a, b]] w fun e w' => e = .returned (.map (some (w.heap.size + 1))) ∧ FTab w' (w.heap.size + 1) a b ∧ Below w.heap.size w w' := by
  obtain ⟨V1, V2, V3, V4, V5, V6, V7, V8, V9, V10, V11, V12, e1, e2, e3, e4, e5, e6, e7, e8, e9, e10, e11, e12, ⟨x1, y1⟩, ⟨x2, y2⟩, ⟨x3, y3⟩, ⟨x4, y4⟩, ⟨x5, y5⟩, ⟨x6, y6⟩, ⟨x7, y7⟩, ⟨x8, y8⟩, ⟨x9, y9⟩, ⟨x10, y10⟩, ⟨x11, y11⟩, hF, hB⟩ := fmaps w a b
  have HF := Lib.hid hF
  have HB := Lib.hid hB
  clear hF hB
  have hmk : ∀ W : World, (Instr.makeMap 66 none).run Tryz.prog W = .ok (.map (some W.heap.size)) (W.alloc (.map #[] 0)) := fun W => rfl
  go_enter Tryz.func52, Tryz.ntmps52
  go_wp2_with fail
  go_ret
  exact ⟨rfl, HF.out, HB.out⟩
set_option maxRecDepth 100000 in
theorem look_length {W : World} {q : Nat} {a b : Value} (h : FTab W q a b) : (Instr.lookup 66 (.map (some q)) (.int .u8 31) false).run Tryz.prog W = .ok (.func (.func 105) #[.agg #[a, b]] #[]) W :=
  run_lookAt (kt := 5) (et := 65) rfl rfl h 31 (j := 0) rfl
set_option maxRecDepth 100000 in
theorem look_left {W : World} {q : Nat} {a b : Value} (h : FTab W q a b) : (Instr.lookup 66 (.map (some q)) (.int .u8 32) false).run Tryz.prog W = .ok (.func (.func 106) #[.agg #[a, b]] #[]) W :=
  run_lookAt (kt := 5) (et := 65) rfl rfl h 32 (j := 1) rfl
set_option maxRecDepth 100000 in
theorem look_right {W : World} {q : Nat} {a b : Value} (h : FTab W q a b) : (Instr.lookup 66 (.map (some q)) (.int .u8 33) false).run Tryz.prog W = .ok (.func (.func 107) #[.agg #[a, b]] #[]) W :=
  run_lookAt (kt := 5) (et := 65) rfl rfl h 33 (j := 2) rfl
set_option maxRecDepth 100000 in
theorem look_middle {W : World} {q : Nat} {a b : Value} (h : FTab W q a b) : (Instr.lookup 66 (.map (some q)) (.int .u8 34) false).run Tryz.prog W = .ok (.func (.func 108) #[.agg #[a, b]] #[]) W :=
  run_lookAt (kt := 5) (et := 65) rfl rfl h 34 (j := 3) rfl
set_option maxRecDepth 100000 in
theorem look_upper {W : World} {q : Nat} {a b : Value} (h : FTab W q a b) : (Instr.lookup 66 (.map (some q)) (.int .u8 35) false).run Tryz.prog W = .ok (.func (.func 109) #[.agg #[a, b]] #[]) W :=
  run_lookAt (kt := 5) (et := 65) rfl rfl h 35 (j := 4) rfl
set_option maxRecDepth 100000 in
theorem look_lower {W : World} {q : Nat} {a b : Value} (h : FTab W q a b) : (Instr.lookup 66 (.map (some q)) (.int .u8 36) false).run Tryz.prog W = .ok (.func (.func 110) #[.agg #[a, b]] #[]) W :=
  run_lookAt (kt := 5) (et := 65) rfl rfl h 36 (j := 5) rfl
set_option maxRecDepth 100000 in
theorem look_trim {W : World} {q : Nat} {a b : Value} (h : FTab W q a b) : (Instr.lookup 66 (.map (some q)) (.int .u8 37) false).run Tryz.prog W = .ok (.func (.func 111) #[.agg #[a, b]] #[]) W :=
  run_lookAt (kt := 5) (et := 65) rfl rfl h 37 (j := 6) rfl
set_option maxRecDepth 100000 in
theorem look_concat {W : World} {q : Nat} {a b : Value} (h : FTab W q a b) : (Instr.lookup 66 (.map (some q)) (.int .u8 38) false).run Tryz.prog W = .ok (.func (.func 112) #[.agg #[a, b]] #[]) W :=
  run_lookAt (kt := 5) (et := 65) rfl rfl h 38 (j := 7) rfl
set_option maxRecDepth 100000 in
theorem look_repeat {W : World} {q : Nat} {a b : Value} (h : FTab W q a b) : (Instr.lookup 66 (.map (some q)) (.int .u8 39) false).run Tryz.prog W = .ok (.func (.func 113) #[.agg #[a, b]] #[]) W :=
  run_lookAt (kt := 5) (et := 65) rfl rfl h 39 (j := 8) rfl
set_option maxRecDepth 100000 in
theorem look_exact {W : World} {q : Nat} {a b : Value} (h : FTab W q a b) : (Instr.lookup 66 (.map (some q)) (.int .u8 40) false).run Tryz.prog W = .ok (.func (.func 114) #[.agg #[a, b]] #[]) W :=
  run_lookAt (kt := 5) (et := 65) rfl rfl h 40 (j := 9) rfl
set_option maxRecDepth 100000 in
theorem look_find {W : World} {q : Nat} {a b : Value} (h : FTab W q a b) : (Instr.lookup 66 (.map (some q)) (.int .u8 41) false).run Tryz.prog W = .ok (.func (.func 115) #[.agg #[a, b]] #[]) W :=
  run_lookAt (kt := 5) (et := 65) rfl rfl h 41 (j := 10) rfl
set_option maxRecDepth 100000 in
theorem look_value {W : World} {q : Nat} {a b : Value} (h : FTab W q a b) : (Instr.lookup 66 (.map (some q)) (.int .u8 42) false).run Tryz.prog W = .ok (.func (.func 116) #[.agg #[a, b]] #[]) W :=
  run_lookAt (kt := 5) (et := 65) rfl rfl h 42 (j := 11) rfl
end Go.Proofs.YtfjefanhkbcfgaaGreatDoor.Va
