/- Merged: SeqT SeqP ValC. -/
import Derived.Test.YtfjefanhkbcfgaaGreatDoorSeqO
import Derived.Test.YtfjefanhkbcfgaaGreatDoorRow
import Derived.Test.YtfjefanhkbcfgaaGreatDoorValA
import Derived.Test.YtfjefanhkbcfgaaGreatDoorMgb
import Derived.Test.YtfjefanhkbcfgaaGreatDoorGlyphMath
import GoSem.Op.String
import Derived.BigQuiet
import Derived.Deep.QuietTactic
/- A region that draws its order and ends in stores that wait for all before them. -/
namespace Go.Proofs.YtfjefanhkbcfgaaGreatDoor
open Go Go.RowKit
section
variable {P : Program} {ops : Array Oper} {Q : Exit → Act → World → Prop}
def stsB (ops : Array Oper) (k : Nat) : Bool := (List.range ops.size).all fun i => decide (i < k) || ((ops[i]?).map (fun o => (o.dst == none) && (List.range k).all fun j => (depsOf o).contains j || (depsOf o).any fun m => (depsAt ops m).contains j)).getD false
def msk (k : Nat) (T : Nat → Bool) : Nat → Bool := fun i => decide (k ≤ i) && T i
theorem wp_region_sts {id : Nat} {a : Act} {w : World} (k : Nat) (S : World → Prop) (J : Act → (Nat → Bool) → World → Prop) (hst : ∀ w w', Below w.heap.size w w' → S w → S w') (hm : P.follows Departure.mixedOrders = true) (hd : dstsApart ops = true) (hc : depsBack ops = true)
    (hk : stsB ops k = true) (hkn : k ≤ ops.size) (hS : S { w with drawn := w.drawn + 1 })
    (h : SeqI P ops S (fun _ act w => J act (fun _ => false) w) (fun vs => putsL vs 0 ops.toList a) (ops.toList.take k) [])
    (hsto : ∀ i o act T w, ops[i]? = some o → k ≤ i → T i = false → J act T w → Region.wanted o (yielded ops act.tmps) = true ∧ OperR P o act.eval w (fun _ w' => J act (updB T i) w'))
    (hend : ∀ act T w, (∀ i, k ≤ i → i < ops.size → T i = true) → J act T w → Q .normal act w) : (Code.region id ops true).wp P Q a w := by
  rw [← full_putsL] at h
  obtain ⟨Rs, h1, _, h3, h4, h5⟩ := SeqI.all (ops.toList.take k) [] h (fun i hi => by simp at hi)
  simp only [List.length_nil, Nat.zero_add, List.length_take, Array.length_toList, Nat.min_eq_left hkn] at h1 h4
  have hback : ∀ i o, ops[i]? = some o → ∀ e ∈ o.after, Region.binds .any e = true → e.on < i := by
    intro i o ho e he hb
    obtain ⟨hlt, _⟩ := Array.getElem?_eq_some_iff.1 ho
    have h1 := List.all_eq_true.1 hc i (List.mem_range.2 hlt)
    rw [ho] at h1
    simp only [Option.map_some, Option.getD_some, Array.all_eq_true_iff_forall_mem] at h1
    have := h1 e he
    rw [hb] at this
    simpa using this
  have hstk : ∀ i o, ops[i]? = some o → k ≤ i → o.dst = none ∧ ∀ j, j < k → j ∈ depsOf o ∨ ∃ m ∈ depsOf o, j ∈ depsAt ops m := by
    intro i o ho hki
    obtain ⟨hlt, _⟩ := Array.getElem?_eq_some_iff.1 ho
    have h1 := List.all_eq_true.1 hk i (List.mem_range.2 hlt)
    rw [ho] at h1
    simp only [Option.map_some, Option.getD_some, Bool.or_eq_true, decide_eq_true_eq, Bool.and_eq_true, beq_iff_eq] at h1
    rcases h1 with h1 | ⟨h1, h2⟩
    · omega
    · refine ⟨h1, fun j hj => ?_⟩
      have h3 := List.all_eq_true.1 h2 j (List.mem_range.2 hj)
      rw [Bool.or_eq_true] at h3
      rcases h3 with h3 | h3
      · exact .inl (List.contains_iff_mem.1 h3)
      · obtain ⟨m, hm1, hm2⟩ := List.any_eq_true.1 h3
        exact .inr ⟨m, hm1, List.contains_iff_mem.1 hm2⟩
  refine wp_region_any hm ?_
  have e1 : a = full ops a (fun j => match dstOf ops j with | some d => a.eval (.tmp d) | none => undef) := (puts_self a _).symm
  rw [e1]
  refine wpAny_glob hd (fun T vs w => (((∀ j, k ≤ j → T j = false) ∧ S w ∧ ∀ j, j < k → T j = true → rsAt Rs j (vs j) w) ∨ ((∀ i, i < k → T i = true) ∧ J (full ops a vs) (msk k T) w)) ∧ ∀ m, T m = true → ∀ j ∈ depsAt ops m, T j = true) a ?_ ?_ hback ops.size (List.range ops.size) _ _ _ (by simp) List.pairwise_lt_range ?_ (by simp) ?_
  · rintro i o vs T w ho hTi hT ⟨hI, hcl⟩
    have hdo : depsAt ops i = depsOf o := by unfold depsAt; rw [ho]; rfl
    have hTd : ∀ j ∈ depsOf o, T j = true := fun j hj => by
      obtain ⟨e, hem, rfl⟩ := List.mem_map.1 hj
      obtain ⟨hem1, hem2⟩ := List.mem_filter.1 hem
      exact hT e (by simpa using hem1) hem2
    have hcn : ∀ m, updB T i m = true → ∀ j ∈ depsAt ops m, updB T i j = true := by
      intro m hm j hj
      unfold updB at hm ⊢
      by_cases hmi : m = i
      · rw [hmi, hdo] at hj
        have h8 := hTd j hj
        show (if j = i then true else T j) = true
        rw [h8]; split <;> rfl
      · simp only [hmi, if_false] at hm
        have h8 := hcl m hm j hj
        show (if j = i then true else T j) = true
        rw [h8]; split <;> rfl
    have hi : i < ops.size := (Array.getElem?_eq_some_iff.1 ho).1
    by_cases hik : i < k
    · obtain ⟨hn, hSw, hv⟩ | ⟨hall, _⟩ := hI
      · have ho' : (ops.toList.take k)[i]? = some o := by rw [List.getElem?_take_of_lt hik]; simpa using ho
        have hob := h4 i o ho' (fun j hj => by
            obtain ⟨e, hem, rfl⟩ := List.mem_map.1 hj
            obtain ⟨hem1, hem2⟩ := List.mem_filter.1 hem
            exact hback i o ho e (by simpa using hem1) hem2) vs w hSw (DepF.of _ fun j hj => by
          obtain ⟨e, hem, rfl⟩ := List.mem_map.1 hj
          obtain ⟨hem1, hem2⟩ := List.mem_filter.1 hem
          have hlt := hback i o ho e (by simpa using hem1) hem2
          exact hv e.on (by omega) (hT e (by simpa using hem1) hem2))
        have hmono : ∀ (v : Value) (w' : World), rsAt Rs i v w' → Below w.heap.size w w' → ∀ j, j < k → updB T i j = true → rsAt Rs j (upd vs i v j) w' := by
          intro v w' hF hB j hj hj2
          unfold upd
          by_cases hji : j = i
          · rw [if_pos hji, hji]; exact hF
          · rw [if_neg hji]
            unfold updB at hj2
            rw [if_neg hji] at hj2
            exact h3 j (by omega) _ w w' hB (hv j hj hj2)
        have hno : ∀ j, k ≤ j → updB T i j = false := fun j hj => by unfold updB; rw [if_neg (by omega)]; exact hn j hj
        rcases hob with ⟨hw, hr⟩ | ⟨hw, hF⟩
        · refine .inl ⟨hw, ?_⟩
          have h7 := OperR.wp hr
          unfold Oper.wp at h7 ⊢
          exact upon_way h7 (fun u w' ⟨v, e1, e2, e3⟩ => ⟨v, e1, .inl ⟨hno, hst _ _ e3 hSw, hmono v w' e2 e3⟩, hcn⟩) (fun d w' ⟨v, e1, _⟩ => by have h1 := congrArg (fun x => x.defers.length) e1; simp [put_def] at h1)
        · exact .inr ⟨hw, .inl ⟨hno, hSw, hmono undef w hF (Below.refl _ _)⟩, hcn⟩
      · rw [hall i hik] at hTi; cases hTi
    · obtain ⟨hdn, hdep⟩ := hstk i o ho (by omega)
      have hall : ∀ j, j < k → T j = true := fun j hj => by
        rcases hdep j hj with h8 | ⟨m, hm1, hm2⟩
        · exact hTd j h8
        · exact hcl m (hTd m hm1) j hm2
      have hJ : J (full ops a vs) (msk k T) w := by
        obtain ⟨hn, hSw, hv⟩ | ⟨_, hJ⟩ := hI
        · have h6 := h5 vs w hSw fun j hj => hv j (by omega) (hall j (by omega))
          have e : msk k T = fun _ => false := by
            funext j
            unfold msk
            by_cases hj : k ≤ j
            · rw [hn j hj, Bool.and_false]
            · rw [decide_eq_false hj, Bool.false_and]
          rw [e]; exact h6
        · exact hJ
      obtain ⟨hw, hr⟩ := hsto i o _ _ w ho (by omega) (by unfold msk; rw [hTi, Bool.and_false]) hJ
      refine .inl ⟨hw, ?_⟩
      have h7 := OperR.wp hr
      have em : updB (msk k T) i = msk k (updB T i) := by
        funext j
        unfold updB msk
        by_cases hj : j = i
        · simp only [hj, if_true]; rw [decide_eq_true (by omega)]; rfl
        · simp only [hj, if_false]
      have efull : ∀ v, full ops a (upd vs i v) = full ops a vs := fun v => by
        have hdi : dstOf ops i = none := by unfold dstOf; rw [ho]; exact hdn
        have h8 := puts_upd vs i v (List.range ops.size) a List.nodup_range (fun j hj hne d hdj => by rw [hdi] at hdj; cases hdj) (List.mem_range.2 hi)
        rw [hdi] at h8
        exact h8
      unfold Oper.wp at h7 ⊢
      refine upon_way h7 (fun u w' ⟨v, e1, e2⟩ => ⟨v, e1, .inr ⟨fun j hj => ?_, ?_⟩, hcn⟩) (fun d w' ⟨v, e1, _⟩ => by have h1 := congrArg (fun x => x.defers.length) e1; simp [put_def] at h1)
      · unfold updB; rw [if_neg (by omega)]; exact hall j hj
      · rw [efull, ← em]; exact e2
  · rintro vs T w hall ⟨hI, _⟩
    obtain ⟨hn, hSw, hv⟩ | ⟨_, hJ⟩ := hI
    · have h6 := h5 vs w hSw fun j hj => hv j (by omega) (hall j (by omega))
      exact hend _ _ w (fun i hki his => by have := hn i hki; rw [hall i his] at this; cases this) h6
    · exact hend _ _ w (fun i hki his => by unfold msk; rw [decide_eq_true hki, hall i his]; rfl) hJ
  · intro i
    rw [List.mem_range]
    constructor
    · intro h; refine ⟨h, ?_⟩; simp [Array.getD, h]
    · exact fun h => h.1
  · have hrep : ∀ j, (Array.replicate ops.size false).getD j false = false := by
      intro j
      simp only [Array.getD]
      split
      · simp
      · rfl
    exact ⟨.inl ⟨fun j _ => hrep j, hS, fun j hj hj2 => by have h1 := (hrep j).symm.trans hj2; cases h1⟩, fun j hj => by have h1 := (hrep j).symm.trans hj; cases h1⟩
end
end Go.Proofs.YtfjefanhkbcfgaaGreatDoor
/- The steps of a drawn region that holds appends and stores to memory of its own. -/
namespace Go.Proofs.YtfjefanhkbcfgaaGreatDoor
open Go Go.RowKit
section
variable {α : Type} {e : TypeId} {c : α → List Value} {n Z : Nat} {M : List α}
theorem Below.grownBy {w w' : World} (h : Below w.heap.size w w') (r : Option Nat) : w.grownBy w' r := ⟨h.os, h.tape, h.output, h.size, fun k hk _ => h.block k hk⟩
end
section
variable {P : Program} {ops : Array Oper} {S : World → Prop} {Z : Nat} {L : List FB} {E U D : List (List Nat)} {A : (Nat → Value) → Act} {o : Oper} {i : Nat}
variable {α : Type} {e : TypeId} {c : α → List Value} {n : Nat} {M : List α}
/-- Three cells stored into a block. -/
theorem set3 (w : World) (g : Nat) (t : TypeId) (x y z x' y' z' : Value) (h : w.heap[g]? = some (.cells #[x, y, z] t)) :
    w.grownBy (((w.setCell ⟨g, 0, none⟩ x').setCell ⟨g, 1, none⟩ y').setCell ⟨g, 2, none⟩ z') (some g) ∧ (((w.setCell ⟨g, 0, none⟩ x').setCell ⟨g, 1, none⟩ y').setCell ⟨g, 2, none⟩ z').heap[g]? = some (.cells #[x', y', z'] t) := by
  refine ⟨⟨rfl, rfl, rfl, by simp [World.setCell], fun k hk hne => ?_⟩, ?_⟩
  · have : k ≠ g := fun e => hne (by rw [e])
    rw [Below.heap_setCell _ _ _ _ this, Below.heap_setCell _ _ _ _ this, Below.heap_setCell _ _ _ _ this]
  · obtain ⟨hl, he⟩ := Array.getElem?_eq_some_iff.1 h
    simp [World.setCell, Array.getElem?_modify, h]
end
end Go.Proofs.YtfjefanhkbcfgaaGreatDoor
/- The contract of val.Compare. -/
namespace Go.Proofs.YtfjefanhkbcfgaaGreatDoor.Va
open Go Go.RowKit GM
attribute [local simp] DepA isB rsAt
theorem B3.set {w : World} {p k : Nat} {n : Int} {s : ByteArray} (h : B3 w p k n s) (k' : Nat) (n' : Int) (s' : ByteArray) :
    B3 (((w.setCell ⟨p, 0, none⟩ (.int .u8 (k' : Int))).setCell ⟨p, 1, none⟩ (.int .i64 n')).setCell ⟨p, 2, none⟩ (.string s')) p k' n' s' ∧
    w.grownBy (((w.setCell ⟨p, 0, none⟩ (.int .u8 (k' : Int))).setCell ⟨p, 1, none⟩ (.int .i64 n')).setCell ⟨p, 2, none⟩ (.string s')) (some p) := by
  have := set3 w p 25 _ _ _ (.int .u8 (k' : Int)) (.int .i64 n') (.string s') h
  exact ⟨this.2, this.1⟩
theorem B3.grown {w w' : World} {p q k : Nat} {n : Int} {s : ByteArray} (h : B3 w p k n s) (hg : w.grownBy w' (some q)) (hne : p ≠ q) : B3 w' p k n s :=
  (hg.block p h.lt (by intro e; injection e with e; exact hne e)).trans h
end Go.Proofs.YtfjefanhkbcfgaaGreatDoor.Va
