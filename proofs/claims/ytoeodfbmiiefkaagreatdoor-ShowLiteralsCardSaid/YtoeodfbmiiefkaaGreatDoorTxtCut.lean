/- Where the point of a number's text lies, and the contract of strings.Cut at it. -/
import Derived.Test.YtoeodfbmiiefkaaGreatDoorShelfTxt
import Derived.Lib.IndexLaws
import Derived.WalkKit
import Derived.WalkSpells
import Derived.WalkLawsBesides
import Derived.Lib.Hide
import Derived.BigQuiet
import Derived.Deep.QuietTactic
import Derived.Outline
namespace Go.Proofs.YtoeodfbmiiefkaaGreatDoor.Tx
open Go.RowKit
/-- The place of the first dotP; the length if there is none. -/
def dotP (l : List UInt8) : Nat := if Lib.indexByte l 46 = -1 then l.length else (Lib.indexByte l 46).toNat
def DotAt (l : List UInt8) (n : Nat) : Prop := n ≤ l.length ∧ (∀ j, j < n → l[j]? ≠ some 46) ∧ (n < l.length → l[n]? = some 46)
theorem dotP_at (l : List UInt8) : DotAt l (dotP l) := by
  unfold dotP
  have hge := Lib.indexByte_ge l 46
  split
  · rename_i h
    exact ⟨Nat.le_refl _, fun j _ => Lib.indexByte_none h j, fun h => absurd h (Nat.lt_irrefl _)⟩
  · rename_i h
    obtain ⟨n, hn⟩ := Int.eq_ofNat_of_zero_le (show 0 ≤ Lib.indexByte l 46 by omega)
    obtain ⟨h1, h2⟩ := Lib.indexByte_some hn
    rw [hn, Int.toNat_natCast]
    have : n < l.length := by
      rcases Nat.lt_or_ge n l.length with h | h
      · exact h
      · rw [List.getElem?_eq_none h] at h1; cases h1
    exact ⟨by omega, h2, fun _ => h1⟩
theorem dotP_unique {l : List UInt8} {n : Nat} (h : DotAt l n) : n = dotP l := by
  obtain ⟨a1, a2, a3⟩ := h
  obtain ⟨b1, b2, b3⟩ := dotP_at l
  rcases Nat.lt_trichotomy n (dotP l) with h | h | h
  · exact absurd (a3 (by omega)) (b2 n h)
  · exact h
  · exact absurd (b3 (by omega)) (a2 _ h)
theorem dotP_le (l : List UInt8) : dotP l ≤ l.length := (dotP_at l).1
def cutD (s : ByteArray) : Value := if dotP s.data.toList < s.size then .tuple #[.string (s.extract 0 (dotP s.data.toList)), .string (s.extract (dotP s.data.toList + 1) s.size), .bool true] else .tuple #[.string s, .string ⟨#[]⟩, .bool false]
theorem cutD_no {s : ByteArray} (h : ¬ dotP s.data.toList < s.size) : cutD s = .tuple #[.string s, .string ⟨#[]⟩, .bool false] := by unfold cutD; rw [if_neg h]
theorem cutD_yes {s : ByteArray} {n : Nat} (hn : dotP s.data.toList = n) (h : n < s.size) : cutD s = .tuple #[.string (s.extract 0 n), .string (s.extract (n + 1) s.size), .bool true] := by unfold cutD; rw [hn, if_pos h]
theorem cutliteD_any (s : ByteArray) (hs : s.size ≤ 2000) (w : World) :
    Calls Tryz.prog 136 #[.string s, .string ⟨#[46]⟩] w fun e w' =>
      e = .returned (cutD s) ∧ ∃ k, w' = w.drewN k := by
  have hge := Lib.indexByte_ge s.data.toList 46
  have hle := dotP_le s.data.toList
  have hlen : s.data.toList.length = s.size := by simp
  by_cases h : Lib.indexByte s.data.toList 46 = -1
  · have hc : Hid (cutD s = .tuple #[.string s, .string ⟨#[]⟩, .bool false]) := cutD_no (by unfold dotP; rw [if_pos h, hlen]; exact Nat.lt_irrefl _)
    have HI := Lib.hid h
    clear h hle hge
    go_enter Tryz.func136, Tryz.ntmps136
    go_wp2_with fail
    refine (Tryz.stringslite_Index_one s 46 _).mono ?_
    rintro e w1 ⟨rfl, rfl⟩
    rw [HI.out]
    go_wp2_with fail
    go_ret3
    exact ⟨congrArg Ending.returned hc.out.symm, 0, rfl⟩
  · obtain ⟨n, hn⟩ := Int.eq_ofNat_of_zero_le (show 0 ≤ Lib.indexByte s.data.toList 46 by omega)
    have hcn : dotP s.data.toList = n := by unfold dotP; rw [if_neg h, hn]; rfl
    obtain ⟨h1, h2⟩ := Lib.indexByte_some hn
    have hlt : n < s.size := by
      rcases Nat.lt_or_ge n s.size with h | h
      · exact h
      · rw [List.getElem?_eq_none (by omega)] at h1; cases h1
    have hc := Lib.hid (cutD_yes hcn hlt)
    have HI := Lib.hid hn
    clear h hle hge hn hcn h1 h2 hlen
    have e1 : IntKind.i64.wrap ((n : Int) + 1) = (n : Int) + 1 := IntWalk.i64_in _ (by omega)
    have e2 : (0 : Int) ≤ (n : Int) := by omega
    have e3 : (n : Int) ≤ (s.size : Int) := by omega
    have e4 : (n : Int) + 1 ≤ (s.size : Int) := by omega
    have e5 : (0 : Int) ≤ (n : Int) + 1 := by omega
    go_enter Tryz.func136, Tryz.ntmps136
    go_wp2_with fail
    refine (Tryz.stringslite_Index_one s 46 _).mono ?_
    rintro e w1 ⟨rfl, rfl⟩
    rw [HI.out]
    go_wp2_with fail
    go_quiet (fail)
    go_wp2_with fail
    go_ret3
    exact ⟨congrArg Ending.returned hc.out.symm, _, rfl⟩
theorem cutD_any (s : ByteArray) (hs : s.size ≤ 2000) (w : World) :
    Calls Tryz.prog 110 #[.string s, .string ⟨#[46]⟩] w fun e w' => e = .returned (cutD s) ∧ ∃ k, w' = w.drewN k := by
  by_cases h : dotP s.data.toList < s.size
  · have hc := Lib.hid (cutD_yes rfl h)
    generalize dotP s.data.toList = n at *
    clear h
    go_enter Tryz.func110, Tryz.ntmps110
    go_wp2_with fail
    refine (cutliteD_any s hs _).mono ?_
    rintro e w1 ⟨rfl, k, rfl⟩
    rw [hc.out]
    go_wp2_with fail
    go_ret3
    exact ⟨congrArg Ending.returned hc.out.symm, k, rfl⟩
  · have hc := Lib.hid (cutD_no h)
    clear h
    go_enter Tryz.func110, Tryz.ntmps110
    go_wp2_with fail
    refine (cutliteD_any s hs _).mono ?_
    rintro e w1 ⟨rfl, k, rfl⟩
    rw [hc.out]
    go_wp2_with fail
    go_ret3
    exact ⟨congrArg Ending.returned hc.out.symm, k, rfl⟩
end Go.Proofs.YtoeodfbmiiefkaaGreatDoor.Tx
