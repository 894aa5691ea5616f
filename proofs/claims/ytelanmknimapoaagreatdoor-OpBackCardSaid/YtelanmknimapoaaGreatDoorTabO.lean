/- The tables of the row, as the executor reads them. -/
import Derived.Test.YtelanmknimapoaaGreatDoorSxZj
import Derived.Test.YtelanmknimapoaaGreatDoorProg
import Derived.Test.YtelanmknimapoaaGreatDoorRows
import Derived.KernelRfl
import Derived.LaidMore
import Derived.MakeChecks
import Derived.Stop.LaidErr
namespace Go.Proofs.YtelanmknimapoaaGreatDoor.Ob
open Go Go.RowKit Sx Go.Lib
set_option linter.unusedVariables false
structure Tb (v0 v1 v2 : Value) (w : World) : Prop where
 t0 : ∀ (i : Nat) (v : Value), (zco 9 (Rows.laid_math_bits_deBruijn32tab : DataW Unit))[i]? = some v → w.cell? ⟨7, i, none⟩ = some v
 t1 : ∀ (i : Nat) (v : Value), (zco 9 (Rows.laid_math_bits_deBruijn64tab : DataW Unit))[i]? = some v → w.cell? ⟨8, i, none⟩ = some v
 t2 : ∀ (i : Nat) (v : Value), (zco 9 (Rows.laid_internal_strconv_uint64pow10 : DataW Unit))[i]? = some v → w.cell? ⟨1, i, none⟩ = some v
 t3 : ∀ (i : Nat) (v : Value), (zco 9 (Rows.laid_unicode_utf8_acceptRanges : DataW Unit))[i]? = some v → w.cell? ⟨4, i, none⟩ = some v
 t4 : ∀ (i : Nat) (v : Value), (zco 9 (Rows.laid_louvre_op_words : DataW Unit))[i]? = some v → w.cell? ⟨0, i, none⟩ = some v
 t5 : ∀ (i : Nat) (v : Value), (zco 9 (Rows.laid_unicode_utf8_first : DataW Unit))[i]? = some v → w.cell? ⟨3, i, none⟩ = some v
 i0 : w.cell? ⟨6, 0, none⟩ = some v0
 o0 : oneC v0 = true
 i1 : w.cell? ⟨5, 0, none⟩ = some v1
 o1 : oneC v1 = true
 i2 : w.cell? ⟨2, 0, none⟩ = some v2
 o2 : oneC v2 = true
 mm : ∃ m : Int, v2 = .int .i64 m
theorem cell_lt {w : World} {g i : Nat} {v : Value} (h : w.cell? ⟨g, i, none⟩ = some v) : g < w.heap.size := by
 rcases Nat.lt_or_ge g w.heap.size with h2 | h2
 · exact h2
 · simp only [World.cell?] at h
   rw [Array.getElem?_eq_none h2] at h
   cases h
theorem zbh {w W : World} {g i : Nat} {v : Value} (h : w.cell? ⟨g, i, none⟩ = some v) (e : W.heap[g]? = w.heap[g]?) : W.cell? ⟨g, i, none⟩ = some v := by
 simp only [World.cell?] at h ⊢
 rw [e]; exact h
theorem Tb.l0 {v0 v1 v2 : Value} {w : World} (h : Tb v0 v1 v2 w) : 7 < w.heap.size := cell_lt (h.t0 0 _ (by kernel_rfl : (zco 9 (Rows.laid_math_bits_deBruijn32tab : DataW Unit))[0]? = some (.int .u8 0)))
theorem Tb.l1 {v0 v1 v2 : Value} {w : World} (h : Tb v0 v1 v2 w) : 8 < w.heap.size := cell_lt (h.t1 0 _ (by kernel_rfl : (zco 9 (Rows.laid_math_bits_deBruijn64tab : DataW Unit))[0]? = some (.int .u8 0)))
theorem Tb.l2 {v0 v1 v2 : Value} {w : World} (h : Tb v0 v1 v2 w) : 1 < w.heap.size := cell_lt (h.t2 0 _ (by kernel_rfl : (zco 9 (Rows.laid_internal_strconv_uint64pow10 : DataW Unit))[0]? = some (.int .u64 1)))
theorem Tb.l3 {v0 v1 v2 : Value} {w : World} (h : Tb v0 v1 v2 w) : 4 < w.heap.size := cell_lt (h.t3 0 _ (by kernel_rfl : (zco 9 (Rows.laid_unicode_utf8_acceptRanges : DataW Unit))[0]? = some (.int .u8 128)))
theorem Tb.l4 {v0 v1 v2 : Value} {w : World} (h : Tb v0 v1 v2 w) : 0 < w.heap.size := cell_lt (h.t4 0 _ (by kernel_rfl : (zco 9 (Rows.laid_louvre_op_words : DataW Unit))[0]? = some (.string ⟨⟨[]⟩⟩)))
theorem Tb.l5 {v0 v1 v2 : Value} {w : World} (h : Tb v0 v1 v2 w) : 3 < w.heap.size := cell_lt (h.t5 0 _ (by kernel_rfl : (zco 9 (Rows.laid_unicode_utf8_first : DataW Unit))[0]? = some (.int .u8 240)))
theorem Tb.later {v0 v1 v2 : Value} {w w' : World} (h : Tb v0 v1 v2 w) (hB : Below w.heap.size w w') : Tb v0 v1 v2 w' :=
 ⟨fun i v hv => zbh (h.t0 i v hv) (hB.block _ h.l0), fun i v hv => zbh (h.t1 i v hv) (hB.block _ h.l1), fun i v hv => zbh (h.t2 i v hv) (hB.block _ h.l2), fun i v hv => zbh (h.t3 i v hv) (hB.block _ h.l3), fun i v hv => zbh (h.t4 i v hv) (hB.block _ h.l4), fun i v hv => zbh (h.t5 i v hv) (hB.block _ h.l5), zbh h.i0 (hB.block _ (cell_lt h.i0)), h.o0, zbh h.i1 (hB.block _ (cell_lt h.i1)), h.o1, zbh h.i2 (hB.block _ (cell_lt h.i2)), h.o2, h.mm⟩
theorem yhp {w : World} (hml : ∃ m : Int, w.cell? ⟨2, 0, none⟩ = some (.int .i64 m)) (hp : laidMetH Tryz.prog Rows.opChecksRow.laid w = laidMet Tryz.prog Rows.opChecksRow.laid w) (h : laidMetH Tryz.prog Rows.opChecksRow.laid w) : ∃ v0 v1 v2, Tb v0 v1 v2 w := by
 rw [hp] at h
 replace h : laidMet Tryz.prog [("math/bits.deBruijn32tab", Rows.laid_math_bits_deBruijn32tab), ("math/bits.deBruijn64tab", Rows.laid_math_bits_deBruijn64tab), ("internal/strconv.uint64pow10", Rows.laid_internal_strconv_uint64pow10), ("unicode/utf8.acceptRanges", Rows.laid_unicode_utf8_acceptRanges), ("strconv.ErrRange", Rows.laid_strconv_ErrRange), ("strconv.ErrSyntax", Rows.laid_strconv_ErrSyntax), ("louvre/op.words", Rows.laid_louvre_op_words), ("unicode/utf8.first", Rows.laid_unicode_utf8_first)] w := h
 have t0 := zdn 9 (g := 7) (t := zsh Tryz.prog 7) (by kernel_rfl) (by kernel_rfl) (by kernel_rfl) (h)
 have t1 := zdn 9 (g := 8) (t := zsh Tryz.prog 8) (by kernel_rfl) (by kernel_rfl) (by kernel_rfl) (h.tail)
 have t2 := zdn 9 (g := 1) (t := zsh Tryz.prog 1) (by kernel_rfl) (by kernel_rfl) (by kernel_rfl) (h.tail.tail)
 have t3 := zdn 9 (g := 4) (t := zsh Tryz.prog 4) (by kernel_rfl) (by kernel_rfl) (by kernel_rfl) (h.tail.tail.tail)
 obtain ⟨v0, o0, i0⟩ := zla (g := 6) (by kernel_rfl) (by kernel_rfl) (h.tail.tail.tail.tail)
 obtain ⟨v1, o1, i1⟩ := zla (g := 5) (by kernel_rfl) (by kernel_rfl) (h.tail.tail.tail.tail.tail)
 have t4 := zdn 9 (g := 0) (t := zsh Tryz.prog 0) (by kernel_rfl) (by kernel_rfl) (by kernel_rfl) (h.tail.tail.tail.tail.tail.tail)
 have t5 := zdn 9 (g := 3) (t := zsh Tryz.prog 3) (by kernel_rfl) (by kernel_rfl) (by kernel_rfl) (h.tail.tail.tail.tail.tail.tail.tail)
 obtain ⟨m, i2⟩ := hml
 exact ⟨v0, v1, .int .i64 m, t0, t1, t2, t3, t4, t5, i0, o0, i1, o1, i2, rfl, ⟨m, rfl⟩⟩
noncomputable def nmL : List Tab := [(7, zco 9 (Rows.laid_math_bits_deBruijn32tab : DataW Unit)), (8, zco 9 (Rows.laid_math_bits_deBruijn64tab : DataW Unit)), (1, zco 9 (Rows.laid_internal_strconv_uint64pow10 : DataW Unit)), (4, zco 9 (Rows.laid_unicode_utf8_acceptRanges : DataW Unit)), (0, zco 9 (Rows.laid_louvre_op_words : DataW Unit)), (3, zco 9 (Rows.laid_unicode_utf8_first : DataW Unit)), (6, [symV 0]), (5, [symV 1]), (2, [symV 2])]
theorem zk9 {σ : Nat → Value} {l : List Value} (h : all1 l = true) {i : Nat} {v : Value} (hv : l[i]? = some v) : in0 σ v = v := by
 have := zcf h v (List.mem_of_getElem? hv)
 unfold in0
 split
 · exact absurd this Bool.false_ne_true
 · rfl
theorem nm_l {v0 v1 v2 : Value} {w : World} (h : Tb v0 v1 v2 w) : ∀ x ∈ nmL, x.1 < 9 ∧ x.1 < w.heap.size ∧ spL0 x.2 = true := by
 intro x hx
 simp only [nmL, List.mem_cons, List.not_mem_nil, or_false] at hx
 rcases hx with rfl | rfl | rfl | rfl | rfl | rfl | rfl | rfl | rfl
 · exact ⟨of_decide_eq_true (by kernel_rfl), h.l0, by kernel_rfl⟩
 · exact ⟨of_decide_eq_true (by kernel_rfl), h.l1, by kernel_rfl⟩
 · exact ⟨of_decide_eq_true (by kernel_rfl), h.l2, by kernel_rfl⟩
 · exact ⟨of_decide_eq_true (by kernel_rfl), h.l3, by kernel_rfl⟩
 · exact ⟨of_decide_eq_true (by kernel_rfl), h.l4, by kernel_rfl⟩
 · exact ⟨of_decide_eq_true (by kernel_rfl), h.l5, by kernel_rfl⟩
 · exact ⟨of_decide_eq_true (by kernel_rfl), cell_lt h.i0, by kernel_rfl⟩
 · exact ⟨of_decide_eq_true (by kernel_rfl), cell_lt h.i1, by kernel_rfl⟩
 · exact ⟨of_decide_eq_true (by kernel_rfl), cell_lt h.i2, by kernel_rfl⟩
theorem nm_c {v0 v1 v2 : Value} {w : World} (h : Tb v0 v1 v2 w) {σ : Nat → Value} (s0 : σ 0 = v0) (s1 : σ 1 = v1) (s2 : σ 2 = v2) : ∀ x ∈ nmL, ∀ (i : Nat) (v : Value), x.2[i]? = some v → w.cell? ⟨x.1, i, none⟩ = some (in0 σ v) := by
 intro x hx i v hv
 simp only [nmL, List.mem_cons, List.not_mem_nil, or_false] at hx
 rcases hx with rfl | rfl | rfl | rfl | rfl | rfl | rfl | rfl | rfl
 · rw [zk9 (by kernel_rfl) hv]; exact h.t0 i v hv
 · rw [zk9 (by kernel_rfl) hv]; exact h.t1 i v hv
 · rw [zk9 (by kernel_rfl) hv]; exact h.t2 i v hv
 · rw [zk9 (by kernel_rfl) hv]; exact h.t3 i v hv
 · rw [zk9 (by kernel_rfl) hv]; exact h.t4 i v hv
 · rw [zk9 (by kernel_rfl) hv]; exact h.t5 i v hv
 · cases i with
   | zero => cases hv; exact h.i0.trans (congrArg some s0.symm)
   | succ i => cases hv
 · cases i with
   | zero => cases hv; exact h.i1.trans (congrArg some s1.symm)
   | succ i => cases hv
 · cases i with
   | zero => cases hv; exact h.i2.trans (congrArg some s2.symm)
   | succ i => cases hv
abbrev nmNeed : List Nat := [7, 8, 1, 4, 0, 3, 6, 5, 2]
theorem Tb.at {v0 v1 v2 : Value} {w W : World} (h : Tb v0 v1 v2 w) (hW : ∀ n ∈ nmNeed, n < w.heap.size → W.heap[n]? = w.heap[n]?) : Tb v0 v1 v2 W :=
 ⟨fun i v hv => zbh (h.t0 i v hv) (hW 7 (by decide) h.l0), fun i v hv => zbh (h.t1 i v hv) (hW 8 (by decide) h.l1), fun i v hv => zbh (h.t2 i v hv) (hW 1 (by decide) h.l2), fun i v hv => zbh (h.t3 i v hv) (hW 4 (by decide) h.l3), fun i v hv => zbh (h.t4 i v hv) (hW 0 (by decide) h.l4), fun i v hv => zbh (h.t5 i v hv) (hW 3 (by decide) h.l5), zbh h.i0 (hW 6 (by decide) (cell_lt h.i0)), h.o0, zbh h.i1 (hW 5 (by decide) (cell_lt h.i1)), h.o1, zbh h.i2 (hW 2 (by decide) (cell_lt h.i2)), h.o2, h.mm⟩
theorem zbt {facts : List OFact} {tab : List (FuncId × List Value × Value)} {kn : FuncId → Option (List Value → Hp → R)} {σ : Nat → Value} (one : ∀ i, oneC (σ i) = true) {v0 v1 v2 : Value} {w : World} (hT : Tb v0 v1 v2 w) (s0 : σ 0 = v0) (s1 : σ 1 = v1) (s2 : σ 2 = v2)
 (h1 : ∀ F ∈ facts, FOk Tryz.prog σ (fun W => ∀ n ∈ nmNeed, n < w.heap.size → W.heap[n]? = w.heap[n]?) F) (h2 : ∀ x ∈ tab, TOk Tryz.prog σ (fun W => ∀ n ∈ nmNeed, n < w.heap.size → W.heap[n]? = w.heap[n]?) x)
 (hk : ∀ f kf, kn f = some kf → zqe Tryz.prog ⟨9, nmNeed, facts, tab, kn⟩ σ (fun W => ∀ n ∈ nmNeed, n < w.heap.size → W.heap[n]? = w.heap[n]?) f kf)
 {f : FuncId} {args : List Value} {v : Value} (h : gives (xfun Tryz.prog ⟨9, nmNeed, facts, tab, kn⟩ 10000000 f args (zd7 9 nmL)) v = true) (ha : spL1 args = true) (hv : sp2 v = true) :
 Calls Tryz.prog f ⟨args.map (in1 σ)⟩ w fun e w' => e = .returned (in2 σ v) ∧ Below w.heap.size w w' :=
 zum (by kernel_rfl) one (nm_l hT) (nm_c hT s0 s1 s2) (by decide) h1 h2 hk h ha hv
theorem zqn {facts : List OFact} {tab : List (FuncId × List Value × Value)} {kn : FuncId → Option (List Value → Hp → R)} {σ : Nat → Value} (one : ∀ i, oneC (σ i) = true) {v0 v1 v2 : Value} {w : World} (hT : Tb v0 v1 v2 w) (s0 : σ 0 = v0) (s1 : σ 1 = v1) (s2 : σ 2 = v2)
 (h1 : ∀ F ∈ facts, FOk Tryz.prog σ (fun W => ∀ n ∈ nmNeed, n < w.heap.size → W.heap[n]? = w.heap[n]?) F) (h2 : ∀ x ∈ tab, TOk Tryz.prog σ (fun W => ∀ n ∈ nmNeed, n < w.heap.size → W.heap[n]? = w.heap[n]?) x)
 (hk : ∀ f kf, kn f = some kf → KnOk Tryz.prog ⟨9, nmNeed, facts, tab, kn⟩ f kf)
 {f : FuncId} {args : List Value} {v : Value} (h : gives (xfun Tryz.prog ⟨9, nmNeed, facts, tab, kn⟩ 10000000 f args (zd7 9 nmL)) v = true) (ha : spL1 args = true) (hv : sp2 v = true) :
 Calls Tryz.prog f ⟨args.map (in1 σ)⟩ w fun e w' => e = .returned (in2 σ v) ∧ Below w.heap.size w w' :=
 zbt one hT s0 s1 s2 h1 h2 (fun f kf hf => (hk f kf hf).all) h ha hv
theorem zam {facts : List OFact} {tab : List (FuncId × List Value × Value)} {σ : Nat → Value} (one : ∀ i, oneC (σ i) = true) {v0 v1 v2 : Value} {w : World} (hT : Tb v0 v1 v2 w) (s0 : σ 0 = v0) (s1 : σ 1 = v1) (s2 : σ 2 = v2)
 (h1 : ∀ F ∈ facts, FOk Tryz.prog σ (fun W => ∀ n ∈ nmNeed, n < w.heap.size → W.heap[n]? = w.heap[n]?) F) (h2 : ∀ x ∈ tab, TOk Tryz.prog σ (fun W => ∀ n ∈ nmNeed, n < w.heap.size → W.heap[n]? = w.heap[n]?) x)
 {f : FuncId} {args : List Value} {v : Value} (h : gives (xfun Tryz.prog ⟨9, nmNeed, facts, tab, fun _ => none⟩ 10000000 f args (zd7 9 nmL)) v = true) (ha : spL1 args = true) (hv : sp2 v = true) :
 Calls Tryz.prog f ⟨args.map (in1 σ)⟩ w fun e w' => e = .returned (in2 σ v) ∧ Below w.heap.size w w' :=
 zqn one hT s0 s1 s2 h1 h2 (fun _ _ h => by cases h) h ha hv
theorem all3 {v0 v1 v2 : Value} {l : List Value} (h0 : oneC v0 = true) (h1 : oneC v1 = true) (h2 : oneC v2 = true) (hl : l.all oneC = true) : (v0 :: v1 :: v2 :: l).all oneC = true := by simp [h0, h1, h2]; simpa using hl
end Go.Proofs.YtelanmknimapoaaGreatDoor.Ob
