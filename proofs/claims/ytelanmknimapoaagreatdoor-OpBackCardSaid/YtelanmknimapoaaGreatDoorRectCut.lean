/- Where the zbg of a range's text lies, and the contract of strings.Cut at it. -/
import Derived.Test.YtelanmknimapoaaGreatDoorShelfIndex
import Derived.Lib.IndexLaws
import Derived.WalkKit
import Derived.WalkSpells
import Derived.WalkLawsBesides
import Derived.Lib.Hide
import Derived.BigQuiet
import Derived.Deep.QuietTactic
import Derived.Outline
namespace Go.Proofs.YtelanmknimapoaaGreatDoor.Re
open Go.RowKit
def zbg (l : List UInt8) : Nat := if Lib.indexByte l 58 = -1 then l.length else (Lib.indexByte l 58).toNat
def zxp (l : List UInt8) (n : Nat) : Prop := n ≤ l.length ∧ (∀ j, j < n → l[j]? ≠ some 58) ∧ (n < l.length → l[n]? = some 58)
theorem zmt (l : List UInt8) : zxp l (zbg l) := by
 unfold zbg
 have hge := Lib.indexByte_ge l 58
 split
 · rename_i h
   exact ⟨Nat.le_refl _, fun j _ => Lib.indexByte_none h j, fun h => absurd h (Nat.lt_irrefl _)⟩
 · rename_i h
   obtain ⟨n, hn⟩ := Int.eq_ofNat_of_zero_le (show 0 ≤ Lib.indexByte l 58 by omega)
   obtain ⟨h1, h2⟩ := Lib.indexByte_some hn
   rw [hn, Int.toNat_natCast]
   have : n < l.length := by
    rcases Nat.lt_or_ge n l.length with h | h
    · exact h
    · rw [List.getElem?_eq_none h] at h1; cases h1
   exact ⟨by omega, h2, fun _ => h1⟩
theorem zhv {l : List UInt8} {n : Nat} (h : zxp l n) : n = zbg l := by
 obtain ⟨a1, a2, a3⟩ := h
 obtain ⟨b1, b2, b3⟩ := zmt l
 rcases Nat.lt_trichotomy n (zbg l) with h | h | h
 · exact absurd (a3 (by omega)) (b2 n h)
 · exact h
 · exact absurd (b3 (by omega)) (a2 _ h)
theorem zr6 (l : List UInt8) : zbg l ≤ l.length := (zmt l).1
def cutR (s : ByteArray) : Value := if zbg s.data.toList < s.size then .tuple #[.string (s.extract 0 (zbg s.data.toList)), .string (s.extract (zbg s.data.toList + 1) s.size), .bool true] else .tuple #[.string s, .string ⟨#[]⟩, .bool false]
theorem zp0 {s : ByteArray} (h : ¬ zbg s.data.toList < s.size) : cutR s = .tuple #[.string s, .string ⟨#[]⟩, .bool false] := by unfold cutR; rw [if_neg h]
theorem zms {s : ByteArray} {n : Nat} (hn : zbg s.data.toList = n) (h : n < s.size) : cutR s = .tuple #[.string (s.extract 0 n), .string (s.extract (n + 1) s.size), .bool true] := by unfold cutR; rw [hn, if_pos h]
theorem zj2 (s : ByteArray) (hs : s.size ≤ 2000) (w : World) :
 Calls Tryz.prog 107 #[.string s, .string ⟨#[58]⟩] w fun e w' =>
  e = .returned (cutR s) ∧ ∃ k, w' = w.drewN k := by
 have hge := Lib.indexByte_ge s.data.toList 58
 have hle := zr6 s.data.toList
 have hlen : s.data.toList.length = s.size := by simp
 by_cases h : Lib.indexByte s.data.toList 58 = -1
 · have hc : Hid (cutR s = .tuple #[.string s, .string ⟨#[]⟩, .bool false]) := zp0 (by unfold zbg; rw [if_pos h, hlen]; exact Nat.lt_irrefl _)
   have HI := Lib.hid h
   clear h hle hge
   go_enter Tryz.func107, Tryz.ntmps107
   go_wp2_with fail
   refine (Tryz.stringslite_Index_one s 58 _).mono ?_
   rintro e w1 ⟨rfl, rfl⟩
   rw [HI.out]
   go_wp2_with fail
   go_ret3
   exact ⟨congrArg Ending.returned hc.out.symm, 0, rfl⟩
 · obtain ⟨n, hn⟩ := Int.eq_ofNat_of_zero_le (show 0 ≤ Lib.indexByte s.data.toList 58 by omega)
   have hcn : zbg s.data.toList = n := by unfold zbg; rw [if_neg h, hn]; rfl
   obtain ⟨h1, h2⟩ := Lib.indexByte_some hn
   have hlt : n < s.size := by
    rcases Nat.lt_or_ge n s.size with h | h
    · exact h
    · rw [List.getElem?_eq_none (by omega)] at h1; cases h1
   have hc := Lib.hid (zms hcn hlt)
   have HI := Lib.hid hn
   clear h hle hge hn hcn h1 h2 hlen
   have e1 : IntKind.i64.wrap ((n : Int) + 1) = (n : Int) + 1 := IntWalk.i64_in _ (by omega)
   have e2 : (0 : Int) ≤ (n : Int) := by omega
   have e3 : (n : Int) ≤ (s.size : Int) := by omega
   have e4 : (n : Int) + 1 ≤ (s.size : Int) := by omega
   have e5 : (0 : Int) ≤ (n : Int) + 1 := by omega
   go_enter Tryz.func107, Tryz.ntmps107
   go_wp2_with fail
   refine (Tryz.stringslite_Index_one s 58 _).mono ?_
   rintro e w1 ⟨rfl, rfl⟩
   rw [HI.out]
   go_wp2_with fail
   go_quiet (fail)
   go_wp2_with fail
   go_ret3
   exact ⟨congrArg Ending.returned hc.out.symm, _, rfl⟩
theorem cut_any (s : ByteArray) (hs : s.size ≤ 2000) (w : World) :
 Calls Tryz.prog 85 #[.string s, .string ⟨#[58]⟩] w fun e w' => e = .returned (cutR s) ∧ ∃ k, w' = w.drewN k := by
 by_cases h : zbg s.data.toList < s.size
 · have hc := Lib.hid (zms rfl h)
   generalize zbg s.data.toList = n at *
   clear h
   go_enter Tryz.func85, Tryz.ntmps85
   go_wp2_with fail
   refine (zj2 s hs _).mono ?_
   rintro e w1 ⟨rfl, k, rfl⟩
   rw [hc.out]
   go_wp2_with fail
   go_ret3
   exact ⟨congrArg Ending.returned hc.out.symm, k, rfl⟩
 · have hc := Lib.hid (zp0 h)
   clear h
   go_enter Tryz.func85, Tryz.ntmps85
   go_wp2_with fail
   refine (zj2 s hs _).mono ?_
   rintro e w1 ⟨rfl, k, rfl⟩
   rw [hc.out]
   go_wp2_with fail
   go_ret3
   exact ⟨congrArg Ending.returned hc.out.symm, k, rfl⟩
end Go.Proofs.YtelanmknimapoaaGreatDoor.Re
