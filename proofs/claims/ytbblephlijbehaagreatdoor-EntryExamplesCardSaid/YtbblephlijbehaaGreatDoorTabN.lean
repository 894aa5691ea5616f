/- The tables of the row, as the executor reads them. -/
import Derived.Test.YtbblephlijbehaaGreatDoorSxZj
import Derived.Test.YtbblephlijbehaaGreatDoorProg
import Derived.Test.YtbblephlijbehaaGreatDoorRows
import Derived.KernelRfl
import Derived.LaidMore
import Derived.MakeChecks
import Derived.Stop.LaidErr
namespace Go.Proofs.YtbblephlijbehaaGreatDoor.En
open Go Go.RowKit Sx Go.Lib
set_option linter.unusedVariables false
/-- The tables, with the values of the variables that hold interfaces. -/
structure Tb (v0 : Value) (w : World) : Prop where
  t0 : ∀ (i : Nat) (v : Value), (flatF 9 (Rows.laid_math_bits_deBruijn32tab : DataW Unit))[i]? = some v → w.cell? ⟨10, i, none⟩ = some v
  t1 : ∀ (i : Nat) (v : Value), (flatF 9 (Rows.laid_math_bits_deBruijn64tab : DataW Unit))[i]? = some v → w.cell? ⟨11, i, none⟩ = some v
  t2 : ∀ (i : Nat) (v : Value), (flatF 9 (Rows.laid_internal_strconv_uint64pow10 : DataW Unit))[i]? = some v → w.cell? ⟨4, i, none⟩ = some v
  t3 : ∀ (i : Nat) (v : Value), (flatF 9 (Rows.laid_unicode_utf8_acceptRanges : DataW Unit))[i]? = some v → w.cell? ⟨7, i, none⟩ = some v
  t4 : ∀ (i : Nat) (v : Value), (flatF 9 (Rows.laid_louvre_val_names : DataW Unit))[i]? = some v → w.cell? ⟨1, i, none⟩ = some v
  t5 : ∀ (i : Nat) (v : Value), (flatF 9 (Rows.laid_louvre_lex_symbols : DataW Unit))[i]? = some v → w.cell? ⟨2, i, none⟩ = some v
  t6 : ∀ (i : Nat) (v : Value), (flatF 9 (Rows.laid_louvre_tree_names : DataW Unit))[i]? = some v → w.cell? ⟨3, i, none⟩ = some v
  t7 : ∀ (i : Nat) (v : Value), (flatF 9 (Rows.laid_unicode_utf8_first : DataW Unit))[i]? = some v → w.cell? ⟨6, i, none⟩ = some v
  i0 : w.cell? ⟨5, 0, none⟩ = some v0
  o0 : oneC v0 = true
  mm : ∃ m : Int, v0 = .int .i64 m
theorem cell_lt {w : World} {g i : Nat} {v : Value} (h : w.cell? ⟨g, i, none⟩ = some v) : g < w.heap.size := by
  rcases Nat.lt_or_ge g w.heap.size with h2 | h2
  · exact h2
  · simp only [World.cell?] at h
    rw [Array.getElem?_eq_none h2] at h
    cases h
theorem cell_at {w W : World} {g i : Nat} {v : Value} (h : w.cell? ⟨g, i, none⟩ = some v) (e : W.heap[g]? = w.heap[g]?) : W.cell? ⟨g, i, none⟩ = some v := by
  simp only [World.cell?] at h ⊢
  rw [e]; exact h
theorem Tb.l0 {v0 : Value} {w : World} (h : Tb v0 w) : 10 < w.heap.size := cell_lt (h.t0 0 _ (by kernel_rfl : (flatF 9 (Rows.laid_math_bits_deBruijn32tab : DataW Unit))[0]? = some (.int .u8 0)))
theorem Tb.l1 {v0 : Value} {w : World} (h : Tb v0 w) : 11 < w.heap.size := cell_lt (h.t1 0 _ (by kernel_rfl : (flatF 9 (Rows.laid_math_bits_deBruijn64tab : DataW Unit))[0]? = some (.int .u8 0)))
theorem Tb.l2 {v0 : Value} {w : World} (h : Tb v0 w) : 4 < w.heap.size := cell_lt (h.t2 0 _ (by kernel_rfl : (flatF 9 (Rows.laid_internal_strconv_uint64pow10 : DataW Unit))[0]? = some (.int .u64 1)))
theorem Tb.l3 {v0 : Value} {w : World} (h : Tb v0 w) : 7 < w.heap.size := cell_lt (h.t3 0 _ (by kernel_rfl : (flatF 9 (Rows.laid_unicode_utf8_acceptRanges : DataW Unit))[0]? = some (.int .u8 128)))
theorem Tb.l4 {v0 : Value} {w : World} (h : Tb v0 w) : 1 < w.heap.size := cell_lt (h.t4 0 _ (by kernel_rfl : (flatF 9 (Rows.laid_louvre_val_names : DataW Unit))[0]? = some (.string ⟨⟨[]⟩⟩)))
theorem Tb.l5 {v0 : Value} {w : World} (h : Tb v0 w) : 2 < w.heap.size := cell_lt (h.t5 0 _ (by kernel_rfl : (flatF 9 (Rows.laid_louvre_lex_symbols : DataW Unit))[0]? = some (.string ⟨⟨[60, 62]⟩⟩)))
theorem Tb.l6 {v0 : Value} {w : World} (h : Tb v0 w) : 3 < w.heap.size := cell_lt (h.t6 0 _ (by kernel_rfl : (flatF 9 (Rows.laid_louvre_tree_names : DataW Unit))[0]? = some (.string ⟨⟨[]⟩⟩)))
theorem Tb.l7 {v0 : Value} {w : World} (h : Tb v0 w) : 6 < w.heap.size := cell_lt (h.t7 0 _ (by kernel_rfl : (flatF 9 (Rows.laid_unicode_utf8_first : DataW Unit))[0]? = some (.int .u8 240)))
theorem Tb.later {v0 : Value} {w w' : World} (h : Tb v0 w) (hB : Below w.heap.size w w') : Tb v0 w' :=
  ⟨fun i v hv => cell_at (h.t0 i v hv) (hB.block _ h.l0), fun i v hv => cell_at (h.t1 i v hv) (hB.block _ h.l1), fun i v hv => cell_at (h.t2 i v hv) (hB.block _ h.l2), fun i v hv => cell_at (h.t3 i v hv) (hB.block _ h.l3), fun i v hv => cell_at (h.t4 i v hv) (hB.block _ h.l4), fun i v hv => cell_at (h.t5 i v hv) (hB.block _ h.l5), fun i v hv => cell_at (h.t6 i v hv) (hB.block _ h.l6), fun i v hv => cell_at (h.t7 i v hv) (hB.block _ h.l7), cell_at h.i0 (hB.block _ (cell_lt h.i0)), h.o0, h.mm⟩
theorem tb_of {w : World} (hml : ∃ m : Int, w.cell? ⟨5, 0, none⟩ = some (.int .i64 m)) (hp : laidMetH Tryz.prog Rows.entryExamplesRow.laid w = laidMet Tryz.prog Rows.entryExamplesRow.laid w) (h : laidMetH Tryz.prog Rows.entryExamplesRow.laid w) : ∃ v0, Tb v0 w := by
  rw [hp] at h
  replace h : laidMet Tryz.prog [("math/bits.deBruijn32tab", Rows.laid_math_bits_deBruijn32tab), ("math/bits.deBruijn64tab", Rows.laid_math_bits_deBruijn64tab), ("internal/strconv.uint64pow10", Rows.laid_internal_strconv_uint64pow10), ("unicode/utf8.acceptRanges", Rows.laid_unicode_utf8_acceptRanges), ("louvre/val.names", Rows.laid_louvre_val_names), ("louvre/lex.symbols", Rows.laid_louvre_lex_symbols), ("louvre/tree.names", Rows.laid_louvre_tree_names), ("unicode/utf8.first", Rows.laid_unicode_utf8_first)] w := h
  have t0 := flat_head 9 (g := 10) (t := typeG Tryz.prog 10) (by kernel_rfl) (by kernel_rfl) (by kernel_rfl) (h)
  have t1 := flat_head 9 (g := 11) (t := typeG Tryz.prog 11) (by kernel_rfl) (by kernel_rfl) (by kernel_rfl) (h.tail)
  have t2 := flat_head 9 (g := 4) (t := typeG Tryz.prog 4) (by kernel_rfl) (by kernel_rfl) (by kernel_rfl) (h.tail.tail)
  have t3 := flat_head 9 (g := 7) (t := typeG Tryz.prog 7) (by kernel_rfl) (by kernel_rfl) (by kernel_rfl) (h.tail.tail.tail)
  have t4 := flat_head 9 (g := 1) (t := typeG Tryz.prog 1) (by kernel_rfl) (by kernel_rfl) (by kernel_rfl) (h.tail.tail.tail.tail)
  have t5 := flat_head 9 (g := 2) (t := typeG Tryz.prog 2) (by kernel_rfl) (by kernel_rfl) (by kernel_rfl) (h.tail.tail.tail.tail.tail)
  have t6 := flat_head 9 (g := 3) (t := typeG Tryz.prog 3) (by kernel_rfl) (by kernel_rfl) (by kernel_rfl) (h.tail.tail.tail.tail.tail.tail)
  have t7 := flat_head 9 (g := 6) (t := typeG Tryz.prog 6) (by kernel_rfl) (by kernel_rfl) (by kernel_rfl) (h.tail.tail.tail.tail.tail.tail.tail)
  obtain ⟨m, i0⟩ := hml
  exact ⟨.int .i64 m, t0, t1, t2, t3, t4, t5, t6, t7, i0, rfl, ⟨m, rfl⟩⟩
noncomputable def nmL : List Tab := [(10, flatF 9 (Rows.laid_math_bits_deBruijn32tab : DataW Unit)), (11, flatF 9 (Rows.laid_math_bits_deBruijn64tab : DataW Unit)), (4, flatF 9 (Rows.laid_internal_strconv_uint64pow10 : DataW Unit)), (7, flatF 9 (Rows.laid_unicode_utf8_acceptRanges : DataW Unit)), (1, flatF 9 (Rows.laid_louvre_val_names : DataW Unit)), (2, flatF 9 (Rows.laid_louvre_lex_symbols : DataW Unit)), (3, flatF 9 (Rows.laid_louvre_tree_names : DataW Unit)), (6, flatF 9 (Rows.laid_unicode_utf8_first : DataW Unit)), (5, [symV 0])]
theorem in0_pl {σ : Nat → Value} {l : List Value} (h : all1 l = true) {i : Nat} {v : Value} (hv : l[i]? = some v) : in0 σ v = v := by
  have := all1_mem h v (List.mem_of_getElem? hv)
  unfold in0
  split
  · exact absurd this Bool.false_ne_true
  · rfl
theorem nm_l {v0 : Value} {w : World} (h : Tb v0 w) : ∀ x ∈ nmL, x.1 < 12 ∧ x.1 < w.heap.size ∧ spL0 x.2 = true := by
  intro x hx
  simp only [nmL, List.mem_cons, List.not_mem_nil, or_false] at hx
  rcases hx with rfl | rfl | rfl | rfl | rfl | rfl | rfl | rfl | rfl
  · exact ⟨of_decide_eq_true (by kernel_rfl), h.l0, by kernel_rfl⟩
  · exact ⟨of_decide_eq_true (by kernel_rfl), h.l1, by kernel_rfl⟩
  · exact ⟨of_decide_eq_true (by kernel_rfl), h.l2, by kernel_rfl⟩
  · exact ⟨of_decide_eq_true (by kernel_rfl), h.l3, by kernel_rfl⟩
  · exact ⟨of_decide_eq_true (by kernel_rfl), h.l4, by kernel_rfl⟩
  · exact ⟨of_decide_eq_true (by kernel_rfl), h.l5, by kernel_rfl⟩
  · exact ⟨of_decide_eq_true (by kernel_rfl), h.l6, by kernel_rfl⟩
  · exact ⟨of_decide_eq_true (by kernel_rfl), h.l7, by kernel_rfl⟩
  · exact ⟨of_decide_eq_true (by kernel_rfl), cell_lt h.i0, by kernel_rfl⟩
theorem nm_c {v0 : Value} {w : World} (h : Tb v0 w) {σ : Nat → Value} (s0 : σ 0 = v0) : ∀ x ∈ nmL, ∀ (i : Nat) (v : Value), x.2[i]? = some v → w.cell? ⟨x.1, i, none⟩ = some (in0 σ v) := by
  intro x hx i v hv
  simp only [nmL, List.mem_cons, List.not_mem_nil, or_false] at hx
  rcases hx with rfl | rfl | rfl | rfl | rfl | rfl | rfl | rfl | rfl
  · rw [in0_pl (by kernel_rfl) hv]; exact h.t0 i v hv
  · rw [in0_pl (by kernel_rfl) hv]; exact h.t1 i v hv
  · rw [in0_pl (by kernel_rfl) hv]; exact h.t2 i v hv
  · rw [in0_pl (by kernel_rfl) hv]; exact h.t3 i v hv
  · rw [in0_pl (by kernel_rfl) hv]; exact h.t4 i v hv
  · rw [in0_pl (by kernel_rfl) hv]; exact h.t5 i v hv
  · rw [in0_pl (by kernel_rfl) hv]; exact h.t6 i v hv
  · rw [in0_pl (by kernel_rfl) hv]; exact h.t7 i v hv
  · cases i with
    | zero => cases hv; exact h.i0.trans (congrArg some s0.symm)
    | succ i => cases hv
abbrev nmNeed : List Nat := [10, 11, 4, 7, 1, 2, 3, 6, 5]
theorem Tb.at {v0 : Value} {w W : World} (h : Tb v0 w) (hW : ∀ n ∈ nmNeed, n < w.heap.size → W.heap[n]? = w.heap[n]?) : Tb v0 W :=
  ⟨fun i v hv => cell_at (h.t0 i v hv) (hW 10 (by decide) h.l0), fun i v hv => cell_at (h.t1 i v hv) (hW 11 (by decide) h.l1), fun i v hv => cell_at (h.t2 i v hv) (hW 4 (by decide) h.l2), fun i v hv => cell_at (h.t3 i v hv) (hW 7 (by decide) h.l3), fun i v hv => cell_at (h.t4 i v hv) (hW 1 (by decide) h.l4), fun i v hv => cell_at (h.t5 i v hv) (hW 2 (by decide) h.l5), fun i v hv => cell_at (h.t6 i v hv) (hW 3 (by decide) h.l6), fun i v hv => cell_at (h.t7 i v hv) (hW 6 (by decide) h.l7), cell_at h.i0 (hW 5 (by decide) (cell_lt h.i0)), h.o0, h.mm⟩
/-- **A call with symbols**, where the tables lie; kn: functions that are not entered. -/
theorem va_callK {facts : List OFact} {tab : List (FuncId × List Value × Value)} {kn : FuncId → Option (List Value → Hp → R)} {σ : Nat → Value} (one : ∀ i, oneC (σ i) = true) {v0 : Value} {w : World} (hT : Tb v0 w) (s0 : σ 0 = v0)
    (h1 : ∀ F ∈ facts, FOk Tryz.prog σ (fun W => ∀ n ∈ nmNeed, n < w.heap.size → W.heap[n]? = w.heap[n]?) F) (h2 : ∀ x ∈ tab, TOk Tryz.prog σ (fun W => ∀ n ∈ nmNeed, n < w.heap.size → W.heap[n]? = w.heap[n]?) x)
    (hk : ∀ f kf, kn f = some kf → KnOk Tryz.prog ⟨12, nmNeed, facts, tab, kn⟩ f kf)
    {f : FuncId} {args : List Value} {v : Value} (h : gives (xfun Tryz.prog ⟨12, nmNeed, facts, tab, kn⟩ 10000000 f args (tabsHp 12 nmL)) v = true) (ha : spL1 args = true) (hv : sp2 v = true) :
    Calls Tryz.prog f ⟨args.map (in1 σ)⟩ w fun e w' => e = .returned (in2 σ v) ∧ Below w.heap.size w w' :=
  sym_callK (by kernel_rfl) one (nm_l hT) (nm_c hT s0) (by decide) h1 h2 hk h ha hv
theorem va_call {facts : List OFact} {tab : List (FuncId × List Value × Value)} {σ : Nat → Value} (one : ∀ i, oneC (σ i) = true) {v0 : Value} {w : World} (hT : Tb v0 w) (s0 : σ 0 = v0)
    (h1 : ∀ F ∈ facts, FOk Tryz.prog σ (fun W => ∀ n ∈ nmNeed, n < w.heap.size → W.heap[n]? = w.heap[n]?) F) (h2 : ∀ x ∈ tab, TOk Tryz.prog σ (fun W => ∀ n ∈ nmNeed, n < w.heap.size → W.heap[n]? = w.heap[n]?) x)
    {f : FuncId} {args : List Value} {v : Value} (h : gives (xfun Tryz.prog ⟨12, nmNeed, facts, tab, fun _ => none⟩ 10000000 f args (tabsHp 12 nmL)) v = true) (ha : spL1 args = true) (hv : sp2 v = true) :
    Calls Tryz.prog f ⟨args.map (in1 σ)⟩ w fun e w' => e = .returned (in2 σ v) ∧ Below w.heap.size w w' :=
  va_callK one hT s0 h1 h2 (fun _ _ h => by cases h) h ha hv
theorem all1s {v0 : Value} {l : List Value} (h0 : oneC v0 = true) (hl : l.all oneC = true) : (v0 :: l).all oneC = true := by simp [h0]; simpa using hl
end Go.Proofs.YtbblephlijbehaaGreatDoor.En
