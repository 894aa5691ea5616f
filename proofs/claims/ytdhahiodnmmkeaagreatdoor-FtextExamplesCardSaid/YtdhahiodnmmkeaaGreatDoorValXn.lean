/- The tables that the runs read, beside later worlds; closed helpers. -/
import Derived.Test.YtdhahiodnmmkeaaGreatDoorSxZj
import Derived.Test.YtdhahiodnmmkeaaGreatDoorTab
import Derived.Test.YtdhahiodnmmkeaaGreatDoorProg
import Derived.Test.YtdhahiodnmmkeaaGreatDoorRows
import Derived.KernelRfl
namespace Go.Proofs.YtdhahiodnmmkeaaGreatDoor.Va
open Go Go.RowKit Sx Go.Lib
def Ta (g : Nat) (l : List Value) (w : World) : Prop := g < w.heap.size ∧ ∀ (i : Nat) (v : Value), l[i]? = some v → w.cell? ⟨g, i, none⟩ = some v
theorem Ta.at {g : Nat} {l : List Value} {w W : World} (h : Ta g l w) (e : W.heap[g]? = w.heap[g]?) : Ta g l W := by
 refine ⟨?_, fun i v hv => ?_⟩
 · have h1 := h.1
   rw [Array.getElem?_eq_getElem h1] at e
   exact (Array.getElem?_eq_some_iff.1 e).1
 · have h1 := h.2 i v hv
   simp only [World.cell?] at h1 ⊢
   rw [e]; exact h1
theorem yc3 {g : Nat} {l : List Value} {w : World} (h0 : 0 < l.length) (h : ∀ (i : Nat) (v : Value), l[i]? = some v → w.cell? ⟨g, i, none⟩ = some v) : Ta g l w := by
 refine ⟨?_, h⟩
 have := h 0 _ (List.getElem?_eq_getElem h0)
 by_cases hs : g < w.heap.size
 · exact hs
 · have e : w.heap[g]? = none := Array.getElem?_eq_none (by omega)
   simp [World.cell?, e] at this
noncomputable def tl0 : List Value := zri (H := Unit) Rows.laid_math_bits_deBruijn32tab
theorem ta0 {rest : List (String × DataW Unit)} {w : World} (h : laidMet Tryz.prog (("math/bits.deBruijn32tab", Rows.laid_math_bits_deBruijn32tab) :: rest) w) : Ta 6 tl0 w :=
 yc3 (of_decide_eq_true (by kernel_rfl)) (zji (name := "math/bits.deBruijn32tab") (data := Rows.laid_math_bits_deBruijn32tab) (g := 6) (t := 214) (e := 5) (n := 32) (d := .int .u8) (rest := rest) rfl (by kernel_rfl) (by kernel_rfl) (by kernel_rfl) (by kernel_rfl) (.inl ⟨_, rfl⟩) (by kernel_rfl) (by kernel_rfl) h)
noncomputable def tl1 : List Value := zri (H := Unit) Rows.laid_math_bits_deBruijn64tab
theorem ta1 {rest : List (String × DataW Unit)} {w : World} (h : laidMet Tryz.prog (("math/bits.deBruijn64tab", Rows.laid_math_bits_deBruijn64tab) :: rest) w) : Ta 7 tl1 w :=
 yc3 (of_decide_eq_true (by kernel_rfl)) (zji (name := "math/bits.deBruijn64tab") (data := Rows.laid_math_bits_deBruijn64tab) (g := 7) (t := 215) (e := 5) (n := 64) (d := .int .u8) (rest := rest) rfl (by kernel_rfl) (by kernel_rfl) (by kernel_rfl) (by kernel_rfl) (.inl ⟨_, rfl⟩) (by kernel_rfl) (by kernel_rfl) h)
noncomputable def tl2 : List Value := zri (H := Unit) Rows.laid_internal_strconv_uint64pow10
theorem ta2 {rest : List (String × DataW Unit)} {w : World} (h : laidMet Tryz.prog (("internal/strconv.uint64pow10", Rows.laid_internal_strconv_uint64pow10) :: rest) w) : Ta 3 tl2 w :=
 yc3 (of_decide_eq_true (by kernel_rfl)) (zji (name := "internal/strconv.uint64pow10") (data := Rows.laid_internal_strconv_uint64pow10) (g := 3) (t := 205) (e := 106) (n := 20) (d := .int .u64) (rest := rest) rfl (by kernel_rfl) (by kernel_rfl) (by kernel_rfl) (by kernel_rfl) (.inl ⟨_, rfl⟩) (by kernel_rfl) (by kernel_rfl) h)
theorem yfz {w : World} (h : Pow w) : 3 < w.heap.size := by
 unfold Pow TabIs World.var? at h
 rw [show Tryz.prog.globalNamed "internal/strconv.uint64pow10" = some 3 from by kernel_rfl] at h
 simp only [Option.bind_some] at h
 cases he : w.heap[3]? with
 | none => rw [he] at h; simp at h
 | some o => exact (Array.getElem?_eq_some_iff.1 he).1
theorem yf0 {w W : World} (h : Pow w) (e : W.heap[3]? = w.heap[3]?) : Pow W := by
 unfold Pow TabIs World.var? at *
 rw [show Tryz.prog.globalNamed "internal/strconv.uint64pow10" = some 3 from by kernel_rfl] at *
 simp only [Option.bind_some] at h ⊢
 rw [e]; exact h
noncomputable def nmL : List Tab := [(6, tl0), (7, tl1), (3, tl2)]
abbrev zra : List Nat := [6, 7, 3]
structure Tb (w : World) : Prop where
 t0 : Ta 6 tl0 w
 t1 : Ta 7 tl1 w
 t2 : Ta 3 tl2 w
 pow : Pow w
theorem Tb.at {w W : World} (h : Tb w) (hW : ∀ n ∈ zra, n < w.heap.size → W.heap[n]? = w.heap[n]?) : Tb W :=
 ⟨h.t0.at (hW _ (.head _) h.t0.1), h.t1.at (hW _ (.tail _ (.head _)) h.t1.1), h.t2.at (hW _ (.tail _ (.tail _ (.head _))) h.t2.1), yf0 h.pow (hW _ (.tail _ (.tail _ (.head _))) (yfz h.pow))⟩
theorem Tb.later {w w' : World} (h : Tb w) (hB : Below w.heap.size w w') : Tb w' := h.at fun n _ hn => hB.block n hn
theorem yhc {l : List (String × DataW Unit)} {w : World} (hp : laidMetH Tryz.prog l w = laidMet Tryz.prog l w) (h : laidMetH Tryz.prog l w) {rest : List (String × DataW Unit)}
 (hl : l = ("math/bits.deBruijn32tab", Rows.laid_math_bits_deBruijn32tab) :: ("math/bits.deBruijn64tab", Rows.laid_math_bits_deBruijn64tab) :: ("internal/strconv.uint64pow10", Rows.laid_internal_strconv_uint64pow10) :: rest := by rfl) : Tb w := by
 subst hl
 rw [hp] at h
 exact ⟨ta0 h, ta1 h.tail, ta2 h.tail.tail, zye h.tail.tail⟩
theorem zmk {σ : Nat → Value} {l : List Value} (h : all1 l = true) {i : Nat} {v : Value} (hv : l[i]? = some v) : in0 σ v = v := by
 have := zch h v (List.mem_of_getElem? hv)
 unfold in0
 split
 · exact absurd this Bool.false_ne_true
 · rfl
theorem fn_l {w : World} (h : Tb w) : ∀ x ∈ nmL, x.1 < 40 ∧ x.1 < w.heap.size ∧ spL0 x.2 = true := by
 intro x hx
 simp only [nmL, List.mem_cons, List.not_mem_nil, or_false] at hx
 rcases hx with rfl | rfl | rfl
 · exact ⟨of_decide_eq_true (by kernel_rfl), h.t0.1, by kernel_rfl⟩
 · exact ⟨of_decide_eq_true (by kernel_rfl), h.t1.1, by kernel_rfl⟩
 · exact ⟨of_decide_eq_true (by kernel_rfl), h.t2.1, by kernel_rfl⟩
theorem fn_c {w : World} (h : Tb w) {σ : Nat → Value} : ∀ x ∈ nmL, ∀ (i : Nat) (v : Value), x.2[i]? = some v → w.cell? ⟨x.1, i, none⟩ = some (in0 σ v) := by
 intro x hx i v hv
 simp only [nmL, List.mem_cons, List.not_mem_nil, or_false] at hx
 rcases hx with rfl | rfl | rfl
 · rw [zmk (by kernel_rfl) hv]; exact h.t0.2 i v hv
 · rw [zmk (by kernel_rfl) hv]; exact h.t1.2 i v hv
 · rw [zmk (by kernel_rfl) hv]; exact h.t2.2 i v hv
theorem zar {facts : List OFact} {tab : List (FuncId × List Value × Value)} {σ : Nat → Value} (one : ∀ i, oneC (σ i) = true) {w : World} (hT : Tb w)
 (h1 : ∀ F ∈ facts, FOk Tryz.prog σ (fun W => ∀ n ∈ zra, n < w.heap.size → W.heap[n]? = w.heap[n]?) F) (h2 : ∀ x ∈ tab, TOk Tryz.prog σ (fun W => ∀ n ∈ zra, n < w.heap.size → W.heap[n]? = w.heap[n]?) x)
 {f : FuncId} {args : List Value} {v : Value} (h : gives (xfun Tryz.prog ⟨40, zra, facts, tab, fun _ => none⟩ 10000000 f args (zkv 40 nmL)) v = true) (ha : spL1 args = true) (hv : sp2 v = true) :
 Calls Tryz.prog f ⟨args.map (in1 σ)⟩ w fun e w' => e = .returned (in2 σ v) ∧ Below w.heap.size w w' :=
 zxq (by kernel_rfl) one (fn_l hT) (fn_c hT) (by decide) h1 h2 h ha hv
theorem wrap64 {n : Int} (h1 : -9223372036854775808 ≤ n) (h2 : n ≤ 9223372036854775807) : IntKind.i64.wrap n = n := by
 simp only [IntKind.wrap, IntKind.bits, IntKind.signed]
 simp
 omega
theorem zjd (a : Int) {b : Int} (h : 0 < b) : -b < a.tmod b := by
 by_cases ha : 0 ≤ a
 · have := Int.tmod_nonneg b ha
   omega
 · have h1 := Int.tmod_lt_of_pos (-a) h
   rw [Int.neg_tmod] at h1
   omega
end Go.Proofs.YtdhahiodnmmkeaaGreatDoor.Va
