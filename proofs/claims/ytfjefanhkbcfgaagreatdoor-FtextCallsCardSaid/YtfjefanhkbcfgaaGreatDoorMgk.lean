/- Merged: FtL FtM. -/
import Derived.Test.YtfjefanhkbcfgaaGreatDoorFtX
import Derived.Test.YtfjefanhkbcfgaaGreatDoorMgc
/- ftext: pieces of a text. -/
namespace Go.Proofs.YtfjefanhkbcfgaaGreatDoor.Va
open Go Go.RowKit GM
set_option linter.unusedVariables false
set_option linter.unusedSimpArgs false
theorem ext_data (s : ByteArray) (i j : Nat) : (s.extract i j).data.toList = (s.data.toList.drop i).take (j - i) := by
  rw [ByteArray.data_extract, Array.toList_extract]
theorem ba_ext {s t : ByteArray} (h : s.data.toList = t.data.toList) : s = t := ByteArray.ext (Array.toList_inj.1 h)
theorem pieces {P : ByteArray} {N : Nat} : P.extract 0 (min (N : Int) P.size).toNat ++ midS P ((N : Int) + 1) P.size = P := by
  apply ba_ext
  unfold midS
  rw [app_data, ext_data, ext_data, ext_data, show ((N : Int) + 1 - 1) = (N : Int) by omega]
  have hz := dlen P
  have e : (min (N : Int) (P.size : Int)).toNat = min N P.size := by omega
  rw [e]
  generalize P.data.toList = l at *
  generalize P.size = z at *
  have e2 : (min (z : Int) ((z - min N z : Nat) : Int)).toNat = z - min N z := by omega
  rw [e2, List.drop_zero, Nat.sub_zero, Nat.sub_zero, List.drop_zero, List.take_take, Nat.min_self, List.take_of_length_le (i := z - min N z) (by rw [List.length_drop]; omega)]
  exact List.take_append_drop _ l
/-- Values that lie in blocks of their own, all behind the world at the start. -/
def St (w X : World) (L : List (Nat × V3)) : Prop := Below w.heap.size w X ∧ ∀ q ∈ L, B3 X q.1 q.2.1 q.2.2.1 q.2.2.2
theorem St.next {w X X2 : World} {L : List (Nat × V3)} (h : St w X L) (hB : Below X.heap.size X X2) : St w X2 L := ⟨vnext h.1 hB, fun q hq => (h.2 q hq).later hB⟩
theorem St.add {w X : World} {L : List (Nat × V3)} (h : St w X L) (v : V3) : St w (X.alloc (.cells #[.int .u8 (v.1 : Int), .int .i64 v.2.1, .string v.2.2] 25)) ((X.heap.size, v) :: L) :=
  ⟨vnext h.1 (valloc _ _), fun q hq => by
    rcases List.mem_cons.1 hq with rfl | hq
    · exact B3.start _ _ _ _
    · exact (h.2 q hq).later (valloc _ _)⟩
theorem St.drew {w X : World} {L : List (Nat × V3)} (h : St w X L) : St w { heap := X.heap, tape := X.tape, drawn := X.drawn + 1, os := X.os, output := X.output } L := ⟨h.1.drew, h.2⟩
theorem St.tv {w X : World} {L : List (Nat × V3)} (h : St w X L) {p : Nat} {A : ByteArray} (hm : (p, tv A) ∈ L) : X.cell? ⟨p, 0, none⟩ = some (.int .u8 3) ∧ X.cell? ⟨p, 1, none⟩ = some (.int .i64 0) ∧ X.cell? ⟨p, 2, none⟩ = some (.string A) ∧ p < X.heap.size :=
  have b : B3 X p 3 0 A := h.2 _ hm
  ⟨b.cells.1, b.cells.2.1, b.cells.2.2.1, b.lt⟩
end Go.Proofs.YtfjefanhkbcfgaaGreatDoor.Va
/- ftext: FIND from any number on; the first place. -/
namespace Go.Proofs.YtfjefanhkbcfgaaGreatDoor.Va
open Go Go.RowKit GM
set_option linter.unusedVariables false
set_option linter.unusedSimpArgs false
theorem index_cons (a : UInt8) (l s : List UInt8) : Lib.index (a :: l) s = if s.isPrefixOf (a :: l) = true then 0 else if (Lib.index l s == -1) = true then -1 else Lib.index l s + 1 := by
  rw [Lib.index.eq_def]
theorem index_nil (s : List UInt8) : Lib.index [] s = if s.isEmpty = true then 0 else -1 := by
  rw [Lib.index.eq_def]
theorem index_lo : ∀ (l s : List UInt8), -1 ≤ Lib.index l s
  | [], s => by rw [index_nil]; split <;> omega
  | a :: l, s => by
    have := index_lo l s
    rw [index_cons]
    split
    · omega
    · split <;> omega
theorem pre_take {s l : List UInt8} : s.isPrefixOf l = true ↔ l.take s.length = s := by
  rw [List.isPrefixOf_iff_prefix, List.prefix_iff_eq_take]
  exact eq_comm
theorem index_yes {l s : List UInt8} (h : l.take s.length = s) : Lib.index l s = 0 := by
  cases l with
  | nil => rw [index_nil, if_pos]; simp at h; simp [h]
  | cons a l => rw [index_cons, if_pos (pre_take.2 h)]
theorem index_short : ∀ (l s : List UInt8), l.length < s.length → Lib.index l s = -1
  | [], s, h => by rw [index_nil, if_neg]; cases s <;> simp at h ⊢
  | a :: l, s, h => by
    rw [index_cons, if_neg, if_pos]
    · rw [index_short l s (by simp at h; omega)]; rfl
    · intro hp
      have := congrArg List.length (pre_take.1 hp)
      rw [List.length_take] at this
      omega
theorem index_at : ∀ (l s : List UInt8), 0 ≤ Lib.index l s → (l.drop (Lib.index l s).toNat).take s.length = s ∧ (Lib.index l s).toNat ≤ l.length
  | [], s, h => by
    rw [index_nil] at h ⊢
    split at h
    · next e => rw [if_pos e]; simp at e; simp [e]
    · omega
  | a :: l, s, h => by
    have lo := index_lo l s
    rw [index_cons] at h ⊢
    by_cases hp : s.isPrefixOf (a :: l) = true
    · rw [if_pos hp]; exact ⟨pre_take.1 hp, by simp⟩
    · rw [if_neg hp] at h ⊢
      by_cases hm : (Lib.index l s == -1) = true
      · rw [if_pos hm] at h; omega
      · rw [if_neg hm] at h ⊢
        have hm' : Lib.index l s ≠ -1 := by simpa using hm
        obtain ⟨h1, h2⟩ := index_at l s (by omega)
        have e : (Lib.index l s + 1).toNat = (Lib.index l s).toNat + 1 := by omega
        rw [e, List.drop_succ_cons]
        exact ⟨h1, by simp; omega⟩
/-- The least place from k on at which X is in Y; 0 where there is none. -/
def fstP (X Y : List UInt8) (k : Int) : Int := if (Y.length : Int) - X.length + 1 < k then 0 else if Lib.index (Y.drop (k - 1).toNat) X < 0 then 0 else k + Lib.index (Y.drop (k - 1).toNat) X
theorem fstP_none {X Y : List UInt8} {k : Int} (h : (Y.length : Int) - X.length + 1 < k) : fstP X Y k = 0 := if_pos h
theorem fstP_hit {X Y : List UInt8} {k : Int} (h1 : 1 ≤ k) (hk : k ≤ (Y.length : Int) - X.length + 1) (h : (Y.drop (k - 1).toNat).take X.length = X) : fstP X Y k = k := by
  unfold fstP
  rw [if_neg (by omega), index_yes h]
  simp
theorem fstP_miss {X Y : List UInt8} {k : Int} (h1 : 1 ≤ k) (hk : k ≤ (Y.length : Int) - X.length + 1) (h : ¬ (Y.drop (k - 1).toNat).take X.length = X) : fstP X Y k = fstP X Y (k + 1) := by
  have hX : X ≠ [] := fun e => h (by rw [e]; simp)
  have hx0 : 0 < X.length := List.length_pos_iff.2 hX
  have hlt : (k - 1).toNat < Y.length := by omega
  have lo := index_lo (Y.drop k.toNat) X
  have e : Y.drop (k - 1).toNat = Y[(k - 1).toNat] :: Y.drop k.toNat := by
    rw [List.drop_eq_getElem_cons hlt]
    congr 2
    omega
  have hnp : ¬ X.isPrefixOf (Y.drop (k - 1).toNat) = true := fun hp => h (pre_take.1 hp)
  have hi : Lib.index (Y.drop (k - 1).toNat) X = if (Lib.index (Y.drop k.toNat) X == -1) = true then -1 else Lib.index (Y.drop k.toNat) X + 1 := by
    rw [e, index_cons, if_neg (by rw [← e]; exact hnp)]
  unfold fstP
  rw [if_neg (by omega), show k + 1 - 1 = k by omega]
  by_cases hk2 : (Y.length : Int) - X.length + 1 < k + 1
  · rw [if_pos hk2]
    have := index_short (Y.drop k.toNat) X (by rw [List.length_drop]; omega)
    rw [this] at hi
    rw [if_pos (by rw [hi]; decide)]
  · rw [if_neg hk2, hi]
    by_cases hm : Lib.index (Y.drop k.toNat) X = -1
    · rw [hm]; simp
    · rw [if_neg (show ¬ (Lib.index (Y.drop k.toNat) X == -1) = true by simpa using hm), if_neg (show ¬ (Lib.index (Y.drop k.toNat) X + 1 < 0) by omega), if_neg (show ¬ (Lib.index (Y.drop k.toNat) X < 0) by omega)]
      omega
theorem findV_none {s t : ByteArray} {f : Int} (h : f < 1 ∨ fstP s.data.toList t.data.toList f = 0) : findV s t f = badV := by
  unfold findV
  by_cases h1 : f < 1 ∨ (t.size : Int) + 1 < f
  · rw [if_pos h1]
  · rw [if_neg h1]
    have h2 := h.resolve_left (fun e => h1 (.inl e))
    unfold fstP at h2
    have e : (t.extract (f.toNat - 1) t.size).data.toList = t.data.toList.drop (f - 1).toNat := by
      rw [ext_data, show f.toNat - 1 = (f - 1).toNat by omega, List.take_of_length_le]
      rw [List.length_drop, dlen]; omega
    unfold fndI
    rw [e]
    rw [dlen, dlen] at h2
    by_cases h3 : (t.size : Int) - s.size + 1 < f
    · have := index_short (t.data.toList.drop (f - 1).toNat) s.data.toList (by rw [List.length_drop, dlen, dlen]; omega)
      rw [if_pos (by rw [this]; decide)]
    · rw [if_neg h3] at h2
      by_cases h4 : Lib.index (t.data.toList.drop (f - 1).toNat) s.data.toList < 0
      · rw [if_pos h4]
      · rw [if_neg h4] at h2; omega
theorem findV_some {s t : ByteArray} {f p : Int} (hf : 1 ≤ f) (h : fstP s.data.toList t.data.toList f = p) (hp : p ≠ 0) : findV s t f = (1, p * 10000, ⟨#[]⟩) ∧ 1 ≤ p ∧ p ≤ (t.size : Int) + 1 ∧ (t.data.toList.drop (p - 1).toNat).take s.size = s.data.toList := by
  unfold fstP at h
  rw [dlen, dlen] at h
  by_cases h3 : (t.size : Int) - s.size + 1 < f
  · rw [if_pos h3] at h; omega
  rw [if_neg h3] at h
  have e : (t.extract (f.toNat - 1) t.size).data.toList = t.data.toList.drop (f - 1).toNat := by
    rw [ext_data, show f.toNat - 1 = (f - 1).toNat by omega, List.take_of_length_le]
    rw [List.length_drop, dlen]; omega
  have lo := index_lo (t.data.toList.drop (f - 1).toNat) s.data.toList
  by_cases h4 : Lib.index (t.data.toList.drop (f - 1).toNat) s.data.toList < 0
  · rw [if_pos h4] at h; omega
  rw [if_neg h4] at h
  obtain ⟨a1, a2⟩ := index_at _ _ (by omega : 0 ≤ Lib.index (t.data.toList.drop (f - 1).toNat) s.data.toList)
  rw [List.length_drop, dlen] at a2
  rw [List.drop_drop, dlen] at a1
  refine ⟨?_, by omega, by omega, ?_⟩
  · unfold findV fndI
    rw [if_neg (by omega), e, if_neg (by omega)]
    unfold cnV
    rw [show f - 1 + Lib.index (t.data.toList.drop (f - 1).toNat) s.data.toList + 1 = p by omega]
  · rw [show (p - 1).toNat = (f - 1).toNat + (Lib.index (t.data.toList.drop (f - 1).toNat) s.data.toList).toNat by omega]
    exact a1
end Go.Proofs.YtfjefanhkbcfgaaGreatDoor.Va
