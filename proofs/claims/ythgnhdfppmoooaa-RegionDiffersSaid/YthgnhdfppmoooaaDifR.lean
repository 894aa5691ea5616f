/- What lies beside each other while region.Differ gathers its parts. -/
import Derived.Test.YthgnhdfppmoooaaDifE
namespace Go.Proofs.Ythgnhdfppmoooaa.Re
open Go.RowKit AM
set_option linter.unusedVariables false
set_option linter.unusedSimpArgs false
def twoE (a b : Int) : Int := if a = 0 then b else a
/-- Two slices in a block of their own. -/
def Two2 (w : World) (q : Nat) (u v : Value) : Prop := q < w.heap.size ∧ w.cell? ⟨q, 0, none⟩ = some u ∧ w.cell? ⟨q, 1, none⟩ = some v
theorem Two2.later {w w' : World} {q : Nat} {u v : Value} (h : Two2 w q u v) (hB : Below w.heap.size w w') : Two2 w' q u v := by
  obtain ⟨h0, h1, h2⟩ := h
  exact ⟨Nat.lt_of_lt_of_le h0 hB.size, (hB.cell (p := ⟨q, 0, none⟩) h0).trans h1, (hB.cell (p := ⟨q, 1, none⟩) h0).trans h2⟩
theorem Two2.start (w : World) (u v : Value) (t : TypeId) : Two2 (w.alloc (.cells #[u, v] t)) w.heap.size u v := ⟨by simp, (World.cell?_alloc_at _ _ _ 0 rfl).trans rfl, (World.cell?_alloc_at _ _ _ 1 rfl).trans rfl⟩
def difOf (A B : List RV) (x : R4 × Nat) : List (R4 × Nat) := (downL B (B.length - 1) x.1).filter fun y => gRd (ruleAt A x.2) (ruleAt B y.2)
theorem difL_of (A B : List RV) (r : R4) : difL A B gRd r = (downL A (A.length - 1) r).flatMap (difOf A B) := rfl
theorem difL_len {r : R4} {A B : List RV} (ha : gcE r A = 0) (hb : gcE r B = 0) : (difL A B gRd r).length ≤ 1048576 := by
  obtain ⟨hrk, hrc⟩ := gcE_zero.1 ha
  obtain ⟨h0, h64, hsh, hok⟩ := rck_zero.1 hrc
  obtain ⟨_, hrcB⟩ := gcE_zero.1 hb
  obtain ⟨h0B, h64B, hshB, hokB⟩ := rck_zero.1 hrcB
  have hck : ∀ k, k < A.length → (rr4 (ruleAt A k)).ck = true := fun k hk => okRule_ck (hok k hk)
  have hckB : ∀ k, k < B.length → (rr4 (ruleAt B k)).ck = true := fun k hk => okRule_ck (hokB k hk)
  have hd := difL_ok A B gRd hck hckB h0 h0B r hrk
  have h5 := len_areas (l := (difL A B gRd r).map (·.1)) fun x hx => by
    obtain ⟨y, hy, rfl⟩ := List.mem_map.1 hx; exact (hd y hy).1
  rw [dif_areas A B gRd hck hckB hsh hshB h0 h0B r hrk, List.length_map] at h5
  have h6 := cnt_le (fun p q => gRd (ruleAt A (lastI A p q A.length)) (ruleAt B (lastI B p q B.length))) hrk
  omega
theorem difOf_step {A B : List RV} {D1 : List (R4 × Nat)} {k : Nat} (hk : k < D1.length) : (D1.take k).flatMap (difOf A B) ++ difOf A B D1[k] = (D1.take (k + 1)).flatMap (difOf A B) := by
  rw [List.take_succ_eq_append_getElem hk, List.flatMap_append]; simp
theorem filt_t {g : R4 × Nat → Bool} {D2 : List (R4 × Nat)} {t : Nat} (ht : t < D2.length) (h : g D2[t] = true) : (D2.take t).filter g ++ [D2[t]] = (D2.take (t + 1)).filter g := by
  rw [List.take_succ_eq_append_getElem ht, List.filter_append, List.filter_cons, if_pos h]; rfl
theorem filt_f {g : R4 × Nat → Bool} {D2 : List (R4 × Nat)} {t : Nat} (ht : t < D2.length) (h : g D2[t] = false) : (D2.take t).filter g = (D2.take (t + 1)).filter g := by
  rw [List.take_succ_eq_append_getElem ht, List.filter_append, List.filter_cons, if_neg (by rw [h]; decide)]; simp
theorem part_len {A B : List RV} {D1 : List (R4 × Nat)} {k : Nat} (hk : k < D1.length) (g : R4 × Nat → Bool) (D2 : List (R4 × Nat)) (h : difOf A B D1[k] = D2.filter g) (t : Nat) : ((D1.take k).flatMap (difOf A B) ++ (D2.take t).filter g).length ≤ (D1.flatMap (difOf A B)).length := by
  have e1 : D1.flatMap (difOf A B) = (D1.take (k + 1)).flatMap (difOf A B) ++ (D1.drop (k + 1)).flatMap (difOf A B) := by rw [← List.flatMap_append, List.take_append_drop]
  have e2 : D2.filter g = (D2.take t).filter g ++ (D2.drop t).filter g := by rw [← List.filter_append, List.take_append_drop]
  rw [e1, ← difOf_step hk, h, e2]
  simp only [List.length_append]
  omega
structure Sd1 (w0 wq : World) (u v1 : Value) (Lu D1 : List (R4 × Nat)) : Prop where
  ou : OwnP5 w0.heap.size wq u Lu
  o1 : OwnP5 w0.heap.size wq v1 D1
  d1 : Dis u v1
  be : Below w0.heap.size w0 wq
structure Sd2 (w0 wq : World) (u v1 v2 : Value) (pb : Nat) (y : R4 × Nat) (Lu D1 D2 : List (R4 × Nat)) : Prop where
  ou : OwnP5 w0.heap.size wq u Lu
  o1 : OwnP5 w0.heap.size wq v1 D1
  o2 : OwnP5 w0.heap.size wq v2 D2
  d1 : Dis u v1
  d2 : Dis u v2
  bl : pb < wq.heap.size ∧ ∀ (j : Nat) (v : Value), (cells5 y)[j]? = some v → wq.cell? ⟨pb, j, none⟩ = some v
  np : ∀ g, u.ownBlock = some g → g ≠ pb
  be : Below w0.heap.size w0 wq
variable {w0 wq w1 : World} {u v1 v2 : Value} {pb : Nat} {y : R4 × Nat} {Lu D1 D2 : List (R4 × Nat)}
theorem Sd2.one (h : Sd2 w0 wq u v1 v2 pb y Lu D1 D2) : Sd1 w0 wq u v1 Lu D1 := ⟨h.ou, h.o1, h.d1, h.be⟩
theorem Sd2.later (h : Sd2 w0 wq u v1 v2 pb y Lu D1 D2) (hB : Below wq.heap.size wq w1) : Sd2 w0 w1 u v1 v2 pb y Lu D1 D2 :=
  ⟨h.ou.later hB, h.o1.later hB, h.o2.later hB, h.d1, h.d2, ⟨Nat.lt_of_lt_of_le h.bl.1 hB.size, fun j v hv => (hB.cell (p := ⟨pb, j, none⟩) h.bl.1).trans (h.bl.2 j v hv)⟩, h.np, Below.next h.be hB⟩
theorem Sd2.start {n2 : Nat} (h : Sd1 w0 wq u v1 Lu D1) (hB : Below wq.heap.size wq w1) (hpb : pb = wq.heap.size) (hbl : pb < w1.heap.size ∧ ∀ (j : Nat) (v : Value), (cells5 y)[j]? = some v → w1.cell? ⟨pb, j, none⟩ = some v) (ho : OwnP5 n2 w1 v2 D2) (hn : wq.heap.size ≤ n2) : Sd2 w0 w1 u v1 v2 pb y Lu D1 D2 := by
  have hu := World.ownsRow.lt h.ou
  have h2 := World.ownsRow.lt ho
  have hz := h.be.size
  exact ⟨h.ou.later hB, h.o1.later hB, OwnOf.weaken ho (by omega), h.d1, fun g hg e => by have := (hu g hg).2; have := (h2 g e).1; omega, hbl, fun g hg => by have := (hu g hg).2; omega, Below.next h.be hB⟩
theorem Sd2.grow {u' : Value} {Lu' : List (R4 × Nat)} (h : Sd2 w0 wq u v1 v2 pb y Lu D1 D2) (ho : OwnP5 w0.heap.size w1 u' Lu') (hg : wq.grownBy w1 u.ownBlock) (hr : u'.ownBlock = u.ownBlock ∨ u'.ownBlock = some wq.heap.size) : Sd2 w0 w1 u' v1 v2 pb y Lu' D1 D2 := by
  have hu := World.ownsRow.lt h.ou
  have hr' : u'.ownBlock = u.ownBlock ∨ ∃ m, u'.ownBlock = some m ∧ wq.heap.size ≤ m := by
    rcases hr with e | e
    · exact .inl e
    · exact .inr ⟨_, e, Nat.le_refl _⟩
  refine ⟨ho, World.ownsRow.kept h.o1 hg h.d1.kept, World.ownsRow.kept h.o2 hg h.d2.kept, h.d1.new (fun g e => (World.ownsRow.lt h.o1 g e).2) hr', h.d2.new (fun g e => (World.ownsRow.lt h.o2 g e).2) hr', ⟨Nat.lt_of_lt_of_le h.bl.1 hg.size, fun j v hv => ?_⟩, fun g e => ?_, h.be.grown hg h.be.size fun q hq => (hu q hq).1⟩
  · exact (World.cell?_of_block (a := ⟨pb, j, none⟩) (hg.block pb h.bl.1 (fun e => h.np pb e.symm rfl))).trans (h.bl.2 j v hv)
  · rcases hr with e' | e'
    · exact h.np g (e' ▸ e)
    · rw [e'] at e; injection e with e; have := h.bl.1; omega
theorem Sd1.nil (h : Below w0.heap.size w0 wq) (o1 : OwnP5 w0.heap.size wq v1 D1) : Sd1 w0 wq (.slice none 0 0) v1 [] D1 := ⟨OwnOf.nil _ _ _ _ _, o1, (fun g e => by simp [Value.ownBlock] at e), h⟩
end Go.Proofs.Ythgnhdfppmoooaa.Re
