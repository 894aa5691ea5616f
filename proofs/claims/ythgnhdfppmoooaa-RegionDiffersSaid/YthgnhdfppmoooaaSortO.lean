/- Own rows behind a sort. -/
import Derived.Test.YthgnhdfppmoooaaMseq
import Derived.Shelf.GgSortFunc.InsertionK
namespace Go.Proofs.Ythgnhdfppmoooaa
open Go Go.RowKit Go.Sort
section
variable {α : Type} [Inhabited α] {c : α → List Value} {n : Nat} {e : TypeId} {B : Nat} {w : World} {L : List α} {g cap : Nat}
omit [Inhabited α] in
theorem OwnOf.parts (h : OwnOf e c n B w (.slice (some ⟨g, 0, none⟩) L.length cap) L) : ∃ cur, B ≤ g ∧ w.heap[g]? = some (.cells cur e (0, 0)) ∧ L.length ≤ cap ∧ cap ≤ maxLen ∧ cur.size = cap * n ∧ cur.toList.take (L.length * n) = L.flatMap c := by
  rcases h.2 with ⟨h1, _⟩ | ⟨g', cap', cur, h1, h2⟩
  · cases h1
  · injection h1 with h1 _ h3
    injection h1 with h1
    injection h1 with h1
    subst h1; subst h3
    exact ⟨cur, h2⟩
theorem OwnOf.holds (hn : ∀ x, (c x).length = n) (h : OwnOf e c n B w (.slice (some ⟨g, 0, none⟩) L.length cap) L) : HoldsK c n w g 0 L.toArray := by
  obtain ⟨cur, _, hh, hc, _, hs, ht⟩ := h.parts
  intro j hj
  rw [size_flatK] at hj
  rw [List.size_toArray] at hj
  have hn0 : 0 < n := by
    rcases Nat.eq_zero_or_pos n with h | h
    · subst h; simp at hj
    · exact h
  have hk : j / n < L.length := Nat.div_lt_of_lt_mul (by rw [Nat.mul_comm]; exact hj)
  have hm := Nat.mod_lt j hn0
  have e1 : j / n * n + j % n = j := by rw [Nat.mul_comm]; exact Nat.div_add_mod j n
  have h1 := flat_at hn L _ hk _ hm
  rw [e1, ← ht, List.getElem?_take, if_pos hj] at h1
  have hlt : j % n < (c L[j / n]).length := by rw [hn]; exact hm
  rw [List.getElem?_eq_getElem hlt] at h1
  rw [get_flatK _ _ _ _ (by simpa using hj), Nat.zero_add]
  have e2 : L.toArray[j / n]! = L[j / n] := by simp [hk]
  rw [e2, getElem!_pos (c L[j / n]) (j % n) hlt]
  rw [Array.getElem?_toList] at h1
  refine ⟨?_, ?_⟩
  · unfold World.cell?; simp [hh, h1]
  · unfold World.frozen?; simp [hh]
theorem OwnOf.sorted (hn : ∀ x, (c x).length = n) (h : OwnOf e c n B w (.slice (some ⟨g, 0, none⟩) L.length cap) L) (m : Nat) (d : Array α) (hs : d.size = L.length) (os : Array Obj) :
    OwnOf e c n B (sortWorldK c n w g 0 m d os) (.slice (some ⟨g, 0, none⟩) L.length cap) d.toList := by
  obtain ⟨cur, hB, hh, hc, hm, hz, ht⟩ := h.parts
  have hg := (Array.getElem?_eq_some_iff.1 hh).1
  have hl : d.toList.length = L.length := by simpa using hs
  refine ⟨flat_len hn _, .inr ⟨g, cap, putCells id 0 (flatK c n d) cur, by rw [hl], hB, ?_, by rw [hl]; exact hc, hm, by unfold putCells; simpa using hz, ?_⟩⟩
  · unfold sortWorldK
    rw [heap_grow_old _ _ (by unfold putRowK putRow mapBlock Sort.ahead; simpa using hg)]
    unfold putRowK putRow mapBlock Sort.ahead
    simp [Array.getElem?_modify, hh, onCells]
  · have hle : L.length * n ≤ cur.size := by rw [hz]; exact Nat.mul_le_mul_right _ hc
    apply List.ext_getElem?
    intro j
    rw [List.getElem?_take, hl]
    by_cases hj : j < L.length * n
    · have hn0 : 0 < n := by
        rcases Nat.eq_zero_or_pos n with h | h
        · subst h; simp at hj
        · exact h
      have hk : j / n < d.toList.length := by rw [hl]; exact Nat.div_lt_of_lt_mul (by rw [Nat.mul_comm]; exact hj)
      have hk2 : j / n < d.size := by simpa using hk
      have hmm := Nat.mod_lt j hn0
      have e1 : j / n * n + j % n = j := by rw [Nat.mul_comm]; exact Nat.div_add_mod j n
      have h1 := flat_at hn d.toList _ hk _ hmm
      rw [e1] at h1
      rw [if_pos hj, h1]
      have hlt : j % n < (c d.toList[j / n]).length := by rw [hn]; exact hmm
      have hlt2 : j % n < (c d[j / n]).length := by rw [hn]; exact hmm
      have hjd : j < d.size * n := by rw [hs]; exact hj
      have hjc : j < cur.size := by omega
      rw [Array.getElem?_toList, List.getElem?_eq_getElem hlt]
      unfold putCells
      rw [Array.getElem?_mapIdx, Array.getElem?_eq_getElem hjc]
      simp only [Option.map_some, size_flatK, Nat.zero_le, true_and, Nat.zero_add, Nat.sub_zero, id]
      rw [if_pos hjd, get_flatK _ _ _ _ hjd, getElem!_pos d (j / n) hk2, getElem!_pos (c d[j / n]) (j % n) hlt2]
      simp
    · rw [if_neg hj]
      symm
      apply List.getElem?_eq_none
      rw [flat_len hn, hl]; omega
theorem below_sorted (w : World) (g m : Nat) (d : Array α) (os : Array Obj) (hB : B ≤ g) (hg : g < w.heap.size) : Below B w (sortWorldK c n w g 0 m d os) := by
  refine ⟨rfl, rfl, rfl, ?_, fun k hk => ?_⟩
  · unfold sortWorldK putRowK putRow mapBlock Sort.ahead; simp
  · unfold sortWorldK
    rw [heap_grow_old _ _ (by unfold putRowK putRow mapBlock Sort.ahead; simp; omega)]
    unfold putRowK putRow mapBlock Sort.ahead
    simp only [Array.getElem?_modify]
    rw [if_neg (by omega)]
end
end Go.Proofs.Ythgnhdfppmoooaa
