/- The contract of the program's Unquote. -/
import Derived.Test.YthgnhdfppmoooaaGreatDoorGlyphE
import Derived.WalkMore
import Derived.ScopeJumps
import Derived.Deep.LoopGhost
namespace Go.Proofs.YthgnhdfppmoooaaGreatDoor
open Go.RowKit GM
/-- What stands between the two quotes of a literal. -/
def inner (l : List UInt8) : List UInt8 := (l.drop 1).take (l.length - 2)
def okU (l : List UInt8) : Bool := decide (2 ≤ l.length) && (l.getD 0 0 == 34) && (l.getD (l.length - 1) 0 == 34) && plain l
def unqS (l : List UInt8) : List UInt8 × Int :=
  if okU l then (match unq (inner l) with | none => ([], 4) | some u => if 256 < u.length then ([], 5) else (u, 0)) else ([], 4)
theorem unqS_bad {l : List UInt8} (h : okU l = false) : unqS l = ([], 4) := by unfold unqS; rw [if_neg (by rw [h]; simp)]
theorem unqS_none {l : List UInt8} (h : okU l = true) (h' : unq (inner l) = none) : unqS l = ([], 4) := by unfold unqS; rw [if_pos h, h']
theorem unqS_long {l u : List UInt8} (h : okU l = true) (h' : unq (inner l) = some u) (h2 : 256 < u.length) : unqS l = ([], 5) := by unfold unqS; rw [if_pos h, h']; simp only; rw [if_pos h2]
theorem unqS_yes {l u : List UInt8} (h : okU l = true) (h' : unq (inner l) = some u) (h2 : ¬ 256 < u.length) : unqS l = (u, 0) := by unfold unqS; rw [if_pos h, h']; simp only; rw [if_neg h2]
theorem okU_short (s : ByteArray) (h : s.size < 2) : okU s.data.toList = false := by unfold okU; rw [data_len]; simp; omega
theorem okU_head (s : ByteArray) (h : 0 < s.size) (h' : ¬ (s[0].toNat : Int) = 34) : okU s.data.toList = false := by
  unfold okU
  have : (s.data.toList.getD 0 0 == 34) = false := by
    have e : s.data.toList.getD 0 0 = s[0] := by simp [List.getD, h]; rfl
    rw [e, beq_eq_false_iff_ne]; exact fun e => h' (by rw [e]; rfl)
  rw [this]; simp
theorem okU_last (s : ByteArray) (h : s.size - 1 < s.size) (h' : ¬ (s[s.size - 1].toNat : Int) = 34) : okU s.data.toList = false := by
  unfold okU
  have : (s.data.toList.getD (s.data.toList.length - 1) 0 == 34) = false := by
    have e : s.data.toList.getD (s.data.toList.length - 1) 0 = s[s.size - 1] := by rw [data_len]; simp [List.getD, h]; rfl
    rw [e, beq_eq_false_iff_ne]; exact fun e => h' (by rw [e]; rfl)
  rw [this]; simp
theorem okU_plain (s : ByteArray) (h : plain s.data.toList = false) : okU s.data.toList = false := by unfold okU; rw [h]; simp
theorem okU_yes (s : ByteArray) (h : 2 ≤ s.size) (h0 : (s[0].toNat : Int) = 34) (h1 : (s[s.size - 1].toNat : Int) = 34) (hp : plain s.data.toList = true) : okU s.data.toList = true := by
  unfold okU
  have e : s.data.toList.getD 0 0 = 34 := by
    have e : s.data.toList.getD 0 0 = s[0] := by simp [List.getD, show 0 < s.size by omega]; rfl
    rw [e]; exact UInt8.toNat_inj.1 (by have : (34 : UInt8).toNat = 34 := rfl; omega)
  have e' : s.data.toList.getD (s.data.toList.length - 1) 0 = 34 := by
    have e : s.data.toList.getD (s.data.toList.length - 1) 0 = s[s.size - 1] := by rw [data_len]; simp [List.getD, show s.size - 1 < s.size by omega]; rfl
    rw [e]; exact UInt8.toNat_inj.1 (by have : (34 : UInt8).toNat = 34 := rfl; omega)
  rw [e, e', hp, data_len]; simp; omega
/-- Of the rest from place k on. -/
def RestU (L : List UInt8) (T : List UInt8) (k : Nat) : Prop := unq L = (unq (L.drop k)).map (T ++ ·) ∧ T.length ≤ k
theorem RestU.zero (L : List UInt8) : RestU L [] 0 := ⟨by simp, by simp⟩
theorem drop_cons (L : List UInt8) (k : Nat) (h : k < L.length) : L.drop k = L[k] :: L.drop (k + 1) := List.drop_eq_getElem_cons h
theorem RestU.one {L T : List UInt8} {k : Nat} (h : RestU L T k) (hk : k < L.length) (hc : L[k] ≠ 34) : RestU L (T ++ [L[k]]) (k + 1) := by
  refine ⟨?_, by have := h.2; simp; omega⟩
  rw [h.1, drop_cons L k hk, unq_cons _ _ hc, Option.map_map]
  congr 1
  funext x; simp
theorem RestU.two {L T : List UInt8} {k : Nat} (h : RestU L T k) (hk : k + 1 < L.length) (hc : L[k] = 34) (hd : L[k + 1] = 34) : RestU L (T ++ [34]) (k + 2) := by
  refine ⟨?_, by have := h.2; simp; omega⟩
  rw [h.1, drop_cons L k (by omega), drop_cons L (k + 1) hk, hc, hd, unq_two, Option.map_map]
  congr 1
  funext x; simp
theorem RestU.stop1 {L T : List UInt8} {k : Nat} (h : RestU L T k) (hk : k + 1 = L.length) (hc : L[k] = 34) : unq L = none := by
  rw [h.1, drop_cons L k (by omega), hk, List.drop_length, hc]; rfl
theorem RestU.stop2 {L T : List UInt8} {k : Nat} (h : RestU L T k) (hk : k + 1 < L.length) (hc : L[k] = 34) (hd : L[k + 1] ≠ 34) : unq L = none := by
  rw [h.1, drop_cons L k (by omega), drop_cons L (k + 1) hk, hc]
  simp [unq, hd]
theorem RestU.done {L T : List UInt8} (h : RestU L T L.length) : unq L = some T := by
  rw [h.1, List.drop_length]; simp [unq]
theorem inner_ext (s : ByteArray) (h : 2 ≤ s.size) : (s.extract 1 (s.size - 1)).data.toList = inner s.data.toList := by
  unfold inner
  rw [ByteArray.data_extract, Array.toList_extract, data_len]
  simp only [List.extract_eq_take_drop]
  rw [show s.size - 1 - 1 = s.size - 2 by omega]
theorem data_get (s : ByteArray) (k : Nat) (h : k < s.size) : s.data.toList[k]'(by simpa using h) = s[k]'h := rfl
end Go.Proofs.YthgnhdfppmoooaaGreatDoor
