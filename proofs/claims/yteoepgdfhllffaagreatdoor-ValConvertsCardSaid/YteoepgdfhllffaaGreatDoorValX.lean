/- The tables that the laws about values read, beside later worlds; the closed helper. -/
import Derived.Test.YteoepgdfhllffaaGreatDoorSxZj
import Derived.Test.YteoepgdfhllffaaGreatDoorTab
import Derived.Test.YteoepgdfhllffaaGreatDoorProg
import Derived.Test.YteoepgdfhllffaaGreatDoorRows
import Derived.KernelRfl
namespace Go.Proofs.YteoepgdfhllffaaGreatDoor.Va
open Go Go.RowKit Sx Go.Lib
def Nm (w : World) : Prop := ∀ (i : Nat) (v : Value), (litsOf (H := Unit) Rows.laid_louvre_val_names)[i]? = some v → w.cell? ⟨0, i, none⟩ = some v
theorem Nm.lt {w : World} (h : Nm w) : 0 < w.heap.size := by
  have h1 := h 0 _ (by kernel_rfl : (litsOf (H := Unit) Rows.laid_louvre_val_names)[0]? = some (.string ⟨⟨[]⟩⟩))
  rcases Nat.lt_or_ge 0 w.heap.size with h2 | h2
  · exact h2
  · simp only [World.cell?] at h1
    rw [Array.getElem?_eq_none h2] at h1
    cases h1
theorem Nm.at {w W : World} (h : Nm w) (e : W.heap[0]? = w.heap[0]?) : Nm W := fun i v hv => by
  have h1 := h i v hv
  simp only [World.cell?] at h1 ⊢
  rw [e]; exact h1
theorem Nm.later {w w' : World} (h : Nm w) (hB : Below w.heap.size w w') : Nm w' := h.at (hB.block _ h.lt)
theorem nm_head {rest : List (String × DataW Unit)} {w : World} (h : laidMet Tryz.prog (("louvre/val.names", Rows.laid_louvre_val_names) :: rest) w) : Nm w :=
  lits_head (name := "louvre/val.names") (data := Rows.laid_louvre_val_names) (g := 0) (t := 39) (e := 9) (n := 8) (d := .string) (rest := rest) rfl (by kernel_rfl) (by kernel_rfl) (by kernel_rfl) (by kernel_rfl) (.inr rfl) (by kernel_rfl) (by kernel_rfl) h
theorem nm_fifth {a b c d : String × DataW Unit} {rest : List (String × DataW Unit)} {w : World}
    (hp : laidMetH Tryz.prog (a :: b :: c :: d :: ("louvre/val.names", Rows.laid_louvre_val_names) :: rest) w = laidMet Tryz.prog (a :: b :: c :: d :: ("louvre/val.names", Rows.laid_louvre_val_names) :: rest) w)
    (h : laidMetH Tryz.prog (a :: b :: c :: d :: ("louvre/val.names", Rows.laid_louvre_val_names) :: rest) w) : Nm w := by
  rw [hp] at h
  exact nm_head h.tail.tail.tail.tail
theorem pow_lt {w : World} (h : Pow w) : 2 < w.heap.size := by
  unfold Pow TabIs World.var? at h
  rw [show Tryz.prog.globalNamed "internal/strconv.uint64pow10" = some 2 from by kernel_rfl] at h
  simp only [Option.bind_some] at h
  cases he : w.heap[2]? with
  | none => rw [he] at h; simp at h
  | some o => exact (Array.getElem?_eq_some_iff.1 he).1
theorem pow_at {w W : World} (h : Pow w) (e : W.heap[2]? = w.heap[2]?) : Pow W := by
  unfold Pow TabIs World.var? at *
  rw [show Tryz.prog.globalNamed "internal/strconv.uint64pow10" = some 2 from by kernel_rfl] at *
  simp only [Option.bind_some] at h ⊢
  rw [e]; exact h
theorem tb_fifth_aux {a b c d e : String × DataW Unit} {rest : List (String × DataW Unit)} {w : World} (hc : c = ("internal/strconv.uint64pow10", Rows.laid_internal_strconv_uint64pow10)) (he : e = ("louvre/val.names", Rows.laid_louvre_val_names))
    (hp : laidMetH Tryz.prog (a :: b :: c :: d :: e :: rest) w = laidMet Tryz.prog (a :: b :: c :: d :: e :: rest) w) (h : laidMetH Tryz.prog (a :: b :: c :: d :: e :: rest) w) : Nm w ∧ Pow w := by
  subst hc he
  rw [hp] at h
  exact ⟨nm_head h.tail.tail.tail.tail, pow_head h.tail.tail⟩
/-- The names of errors to be read, the powers of ten to be handed on. -/
noncomputable def nmL : List Tab := [(0, litsOf (H := Unit) Rows.laid_louvre_val_names), (2, [])]
abbrev nmNeed : List Nat := [0, 2]
/-- Both tables. -/
def Tb (w : World) : Prop := Nm w ∧ Pow w
theorem tb_fifth {l : List (String × DataW Unit)} {w : World} (hp : laidMetH Tryz.prog l w = laidMet Tryz.prog l w) (h : laidMetH Tryz.prog l w)
    {a b d : String × DataW Unit} {rest : List (String × DataW Unit)} (hl : l = a :: b :: ("internal/strconv.uint64pow10", Rows.laid_internal_strconv_uint64pow10) :: d :: ("louvre/val.names", Rows.laid_louvre_val_names) :: rest := by rfl) : Tb w := by
  subst hl
  exact tb_fifth_aux rfl rfl hp h
theorem Tb.later {w w' : World} (h : Tb w) (hB : Below w.heap.size w w') : Tb w' := ⟨h.1.later hB, h.2.later hB⟩
theorem Tb.at {w W : World} (h : Tb w) (hW : ∀ n ∈ nmNeed, n < w.heap.size → W.heap[n]? = w.heap[n]?) : Tb W :=
  ⟨h.1.at (hW _ (.head _) h.1.lt), pow_at h.2 (hW _ (.tail _ (.head _)) (pow_lt h.2))⟩
theorem in0_lits {σ : Nat → Value} {l : List Value} (h : all1 l = true) {i : Nat} {v : Value} (hv : l[i]? = some v) : in0 σ v = v := by
  have := all1_mem h v (List.mem_of_getElem? hv)
  unfold in0
  split
  · exact absurd this Bool.false_ne_true
  · rfl
theorem nm_l {w : World} (h : Tb w) : ∀ x ∈ nmL, x.1 < 40 ∧ x.1 < w.heap.size ∧ spL0 x.2 = true := by
  intro x hx
  simp only [nmL, List.mem_cons, List.not_mem_nil, or_false] at hx
  rcases hx with rfl | rfl
  · exact ⟨of_decide_eq_true (by kernel_rfl), h.1.lt, by kernel_rfl⟩
  · exact ⟨of_decide_eq_true (by kernel_rfl), pow_lt h.2, rfl⟩
theorem nm_c {w : World} (h : Tb w) {σ : Nat → Value} : ∀ x ∈ nmL, ∀ (i : Nat) (v : Value), x.2[i]? = some v → w.cell? ⟨x.1, i, none⟩ = some (in0 σ v) := by
  intro x hx i v hv
  simp only [nmL, List.mem_cons, List.not_mem_nil, or_false] at hx
  rcases hx with rfl | rfl
  · rw [in0_lits (by kernel_rfl) hv]; exact h.1 i v hv
  · simp at hv
/-- **A call with symbols**, where the tables lie. -/
theorem va_call {facts : List OFact} {tab : List (FuncId × List Value × Value)} {σ : Nat → Value} (one : ∀ i, oneC (σ i) = true) {w : World} (hT : Tb w)
    (h1 : ∀ F ∈ facts, FOk Tryz.prog σ (fun W => ∀ n ∈ nmNeed, n < w.heap.size → W.heap[n]? = w.heap[n]?) F) (h2 : ∀ x ∈ tab, TOk Tryz.prog σ (fun W => ∀ n ∈ nmNeed, n < w.heap.size → W.heap[n]? = w.heap[n]?) x)
    {f : FuncId} {args : List Value} {v : Value} (h : gives (xfun Tryz.prog ⟨40, nmNeed, facts, tab, fun _ => none⟩ 10000000 f args (tabsHp 40 nmL)) v = true) (ha : spL1 args = true) (hv : sp2 v = true) :
    Calls Tryz.prog f ⟨args.map (in1 σ)⟩ w fun e w' => e = .returned (in2 σ v) ∧ Below w.heap.size w w' :=
  sym_call (by kernel_rfl) one (nm_l hT) (nm_c hT) (by decide) h1 h2 h ha hv
theorem known05 (w : World) (h : Tb w) : Calls Tryz.prog 6 #[] w fun e w' => e = .returned (.bool true) ∧ Below w.heap.size w w' :=
  va_call (facts := []) (tab := []) (σ := symOf []) (symOf_one rfl) h foks_nil toks_nil (args := []) (v := .bool true) (by kernel_rfl) rfl rfl
end Go.Proofs.YteoepgdfhllffaaGreatDoor.Va
