/- Merged: FtH FtI FtJ FtK. -/
import Derived.Test.YtdhahiodnmmkeaaGreatDoorFtG
import Derived.DataShut
import Derived.Test.YtdhahiodnmmkeaaGreatDoorMga
/- ftext: the examples of the chapter; the law's helpers; of. -/
namespace Go.Proofs.YtdhahiodnmmkeaaGreatDoor.Va
open Go Go.RowKit GM Sx
set_option linter.unusedVariables false
set_option linter.unusedSimpArgs false
theorem zuy (s : ByteArray) (k : Nat) (r : ByteArray) (h1 : k ≤ 9223372036854775807) (h2 : s.size * k ≤ 140737488355328) (h : (⟨(Lib.repeatL s.data.toList k).toArray⟩ : ByteArray) = r) (w : World) : Calls Tryz.prog 148 #[.string s, .int .i64 (k : Int)] w fun e w' => e = .returned (.string r) ∧ Below w.heap.size w w' :=
 (Tryz.strings_Repeat s k w h1 h2).mono fun e w' ⟨he, hB⟩ => ⟨by rw [he, h], hB⟩
theorem zpq (s : ByteArray) (b : UInt8) (r : Int) (h : Lib.indexByte s.data.toList b = r) (w : World) : Calls Tryz.prog 226 #[.string s, .string ⟨#[b]⟩] w fun e w' => e = .returned (.int .i64 r) ∧ Below w.heap.size w w' :=
 (Tryz.stringslite_Index_one s b w).mono fun e w' ⟨he, hw⟩ => ⟨by rw [he, h], hw ▸ Below.refl _ _⟩
theorem zt8 (k : Nat) (n : Int) (s : ByteArray) (r : V3) (h1 : s.size ≤ 2000) (h2 : -9223372036854775808 ≤ n ∧ n ≤ 9223372036854775807) (h : cvR 1 k n s = r) (w : World) (hT : Tb w) : Calls Tryz.prog 100 #[.agg #[.int .u8 (k : Int), .int .i64 n, .string s]] w fun e w' => e = .returned (.agg #[.int .u8 (r.1 : Int), .int .i64 r.2.1, .string r.2.2]) ∧ Below w.heap.size w w' :=
 (zow k n s h1 h2 w hT).mono fun e w' ⟨he, hB⟩ => ⟨by rw [he, h], hB⟩
theorem yc1 (k : Nat) (n : Int) (s : ByteArray) (r : V3) (h1 : s.size ≤ 2000) (h2 : -9223372036854775808 ≤ n ∧ n ≤ 9223372036854775807) (h : cvR 3 k n s = r) (w : World) (hT : Tb w) : Calls Tryz.prog 149 #[.agg #[.int .u8 (k : Int), .int .i64 n, .string s]] w fun e w' => e = .returned (.agg #[.int .u8 (r.1 : Int), .int .i64 r.2.1, .string r.2.2]) ∧ Below w.heap.size w w' :=
 (zqj k n s h1 h2 w hT).mono fun e w' ⟨he, hB⟩ => ⟨by rw [he, h], hB⟩
set_option maxRecDepth 100000 in
theorem zw3 (w : World) (hT : Tb w) : Calls Tryz.prog 15 #[] w fun e w' => e = .returned (.bool true) ∧ Below w.heap.size w w' :=
 zar (facts := []) (tab := [(148, [.string ⟨#[97, 98]⟩, .int .i64 2], .string ⟨#[97, 98, 97, 98]⟩), (148, [.string ⟨#[97, 98]⟩, .int .i64 200], .string ⟨#[97, 98, 97, 98, 97, 98, 97, 98, 97, 98, 97, 98, 97, 98, 97, 98, 97, 98, 97, 98, 97, 98, 97, 98, 97, 98, 97, 98, 97, 98, 97, 98, 97, 98, 97, 98, 97, 98, 97, 98, 97, 98, 97, 98, 97, 98, 97, 98, 97, 98, 97, 98, 97, 98, 97, 98, 97, 98, 97, 98, 97, 98, 97, 98, 97, 98, 97, 98, 97, 98, 97, 98, 97, 98, 97, 98, 97, 98, 97, 98, 97, 98, 97, 98, 97, 98, 97, 98, 97, 98, 97, 98, 97, 98, 97, 98, 97, 98, 97, 98, 97, 98, 97, 98, 97, 98, 97, 98, 97, 98, 97, 98, 97, 98, 97, 98, 97, 98, 97, 98, 97, 98, 97, 98, 97, 98, 97, 98, 97, 98, 97, 98, 97, 98, 97, 98, 97, 98, 97, 98, 97, 98, 97, 98, 97, 98, 97, 98, 97, 98, 97, 98, 97, 98, 97, 98, 97, 98, 97, 98, 97, 98, 97, 98, 97, 98, 97, 98, 97, 98, 97, 98, 97, 98, 97, 98, 97, 98, 97, 98, 97, 98, 97, 98, 97, 98, 97, 98, 97, 98, 97, 98, 97, 98, 97, 98, 97, 98, 97, 98, 97, 98, 97, 98, 97, 98, 97, 98, 97, 98, 97, 98, 97, 98, 97, 98, 97, 98, 97, 98, 97, 98, 97, 98, 97, 98, 97, 98, 97, 98, 97, 98, 97, 98, 97, 98, 97, 98, 97, 98, 97, 98, 97, 98, 97, 98, 97, 98, 97, 98, 97, 98, 97, 98, 97, 98, 97, 98, 97, 98, 97, 98, 97, 98, 97, 98, 97, 98, 97, 98, 97, 98, 97, 98, 97, 98, 97, 98, 97, 98, 97, 98, 97, 98, 97, 98, 97, 98, 97, 98, 97, 98, 97, 98, 97, 98, 97, 98, 97, 98, 97, 98, 97, 98, 97, 98, 97, 98, 97, 98, 97, 98, 97, 98, 97, 98, 97, 98, 97, 98, 97, 98, 97, 98, 97, 98, 97, 98, 97, 98, 97, 98, 97, 98, 97, 98, 97, 98, 97, 98, 97, 98, 97, 98, 97, 98, 97, 98, 97, 98, 97, 98, 97, 98, 97, 98, 97, 98, 97, 98, 97, 98, 97, 98, 97, 98, 97, 98, 97, 98, 97, 98, 97, 98, 97, 98, 97, 98, 97, 98, 97, 98, 97, 98, 97, 98, 97, 98, 97, 98, 97, 98, 97, 98, 97, 98, 97, 98, 97, 98]⟩), (226, [.string ⟨#[97, 98, 99, 98]⟩, .string ⟨#[98]⟩], .int .i64 1), (226, [.string ⟨#[99, 98]⟩, .string ⟨#[98]⟩], .int .i64 1), (226, [.string ⟨#[97, 98, 99]⟩, .string ⟨#[66]⟩], .int .i64 (-1)), (100, [.agg #[.int .u8 3, .int .i64 0, .string ⟨#[49, 46, 53]⟩]], .agg #[.int .u8 1, .int .i64 15000, .string ⟨#[]⟩]), (100, [.agg #[.int .u8 3, .int .i64 0, .string ⟨#[120]⟩]], .agg #[.int .u8 4, .int .i64 2, .string ⟨#[]⟩]), (149, [.agg #[.int .u8 1, .int .i64 125000, .string ⟨#[]⟩]], .agg #[.int .u8 3, .int .i64 0, .string ⟨#[49, 50, 46, 53]⟩])]) (σ := zbj []) (zai rfl) hT (zam) (zaf (Sx.tok rfl rfl rfl rfl (fun W _ => zuy ⟨#[97, 98]⟩ 2 _ (by decide) (by decide) (by kernel_rfl) W)) (zaf (Sx.tok rfl rfl rfl rfl (fun W _ => zuy ⟨#[97, 98]⟩ 200 _ (by decide) (by decide) (by kernel_rfl) W)) (zaf (Sx.tok rfl rfl rfl rfl (fun W _ => zpq ⟨#[97, 98, 99, 98]⟩ 98 _ (by kernel_rfl) W)) (zaf (Sx.tok rfl rfl rfl rfl (fun W _ => zpq ⟨#[99, 98]⟩ 98 _ (by kernel_rfl) W)) (zaf (Sx.tok rfl rfl rfl rfl (fun W _ => zpq ⟨#[97, 98, 99]⟩ 66 _ (by kernel_rfl) W)) (zaf (Sx.tok rfl rfl rfl rfl (fun W hW => zt8 3 0 ⟨#[49, 46, 53]⟩ (1, 15000, ⟨#[]⟩) (by decide) (by decide) (by kernel_rfl) W (hT.at hW))) (zaf (Sx.tok rfl rfl rfl rfl (fun W hW => zt8 3 0 ⟨#[120]⟩ (4, 2, ⟨#[]⟩) (by decide) (by decide) (by kernel_rfl) W (hT.at hW))) (zaf (Sx.tok rfl rfl rfl rfl (fun W hW => yc1 1 125000 ⟨#[]⟩ (3, 0, ⟨#[49, 50, 46, 53]⟩) (by decide) (by decide) (by kernel_rfl) W (hT.at hW))) (zal))))))))) (args := []) (v := .bool true) (by kernel_rfl) rfl rfl
end Go.Proofs.YtdhahiodnmmkeaaGreatDoor.Va
/- ftext: what the law's of returns, function by function. -/
namespace Go.Proofs.YtdhahiodnmmkeaaGreatDoor.Va
open Go Go.RowKit GM
set_option linter.unusedVariables false
set_option linter.unusedSimpArgs false
def tv (s : ByteArray) : V3 := (3, 0, s)
def nv (n : Int) : V3 := (1, n, ⟨#[]⟩)
def Kd : List UInt8 → List V3 → List ByteArray → List Int → Prop
 | _, [], T, W => T = [] ∧ W = []
 | c :: cs, v :: L, T, W => (∃ s T', c = 115 ∧ v = tv s ∧ chk s.data.toList = 0 ∧ T = s :: T' ∧ Kd cs L T' W) ∨ (∃ k W', c = 110 ∧ v = nv (k * 10000) ∧ 0 ≤ k ∧ k ≤ 1000000000 ∧ W = k :: W' ∧ Kd cs L T W')
 | [], _ :: _, _, _ => False
end Go.Proofs.YtdhahiodnmmkeaaGreatDoor.Va
/- ftext: the law's helpers. -/
namespace Go.Proofs.YtdhahiodnmmkeaaGreatDoor.Va
open Go Go.RowKit GM
set_option linter.unusedVariables false
set_option linter.unusedSimpArgs false
theorem zbs (n : Int) (w : World) : Calls Tryz.prog 14 #[.int .i64 n] w fun e w' => e = .returned (.agg #[.int .u8 1, .int .i64 n, .string ⟨#[]⟩]) ∧ Below w.heap.size w w' := by
 go_enter Tryz.func14, Tryz.ntmps14
 go_wp2_with fail
 refine bodyPost_ret (v := .agg #[.int .u8 1, .int .i64 n, .string ⟨#[]⟩]) (by simp [results, Tryz.results14, go_sem]) rfl ⟨rfl, zaa _ _⟩
theorem OwnB.later {B : Nat} {w w1 : World} {v : Value} {l : List UInt8} (h : OwnB B w v l) (hb : Below w.heap.size w w1) : OwnB B w1 v l := by
 obtain ⟨h1, h2⟩ := h
 refine ⟨h1, ?_⟩
 rcases h2 with h2 | ⟨g, cap, cur, rfl, hg, hh, hrest⟩
 · exact .inl h2
 · refine .inr ⟨g, cap, cur, rfl, hg, ?_, hrest⟩
   rw [hb.block g (Array.getElem?_eq_some_iff.1 hh).1]; exact hh
end Go.Proofs.YtdhahiodnmmkeaaGreatDoor.Va
/- ftext: what repeating and joining keep. -/
namespace Go.Proofs.YtdhahiodnmmkeaaGreatDoor.Va
open Go Go.RowKit GM
set_option linter.unusedVariables false
set_option linter.unusedSimpArgs false
theorem dlen (s : ByteArray) : s.data.toList.length = s.size := Array.length_toList
theorem zzt (s t : ByteArray) : (s ++ t).data.toList = s.data.toList ++ t.data.toList := by rw [ByteArray.data_append]; simp
end Go.Proofs.YtdhahiodnmmkeaaGreatDoor.Va
