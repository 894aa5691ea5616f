/- Merged: FtH FtI FtJ FtK. -/
import Derived.Test.YtfjefanhkbcfgaaGreatDoorFtG
import Derived.DataShut
import Derived.Test.YtfjefanhkbcfgaaGreatDoorMga
/- ftext: the examples of the chapter; the law's helpers; of. -/
namespace Go.Proofs.YtfjefanhkbcfgaaGreatDoor.Va
open Go Go.RowKit GM Sx
set_option linter.unusedVariables false
set_option linter.unusedSimpArgs false
theorem rep_lit (s : ByteArray) (k : Nat) (r : ByteArray) (h1 : k ≤ 9223372036854775807) (h2 : s.size * k ≤ 140737488355328) (h : (⟨(Lib.repeatL s.data.toList k).toArray⟩ : ByteArray) = r) (w : World) : Calls Tryz.prog 101 #[.string s, .int .i64 (k : Int)] w fun e w' => e = .returned (.string r) ∧ Below w.heap.size w w' :=
  (Tryz.strings_Repeat s k w h1 h2).mono fun e w' ⟨he, hB⟩ => ⟨by rw [he, h], hB⟩
theorem idx_lit (s : ByteArray) (b : UInt8) (r : Int) (h : Lib.indexByte s.data.toList b = r) (w : World) : Calls Tryz.prog 214 #[.string s, .string ⟨#[b]⟩] w fun e w' => e = .returned (.int .i64 r) ∧ Below w.heap.size w w' :=
  (Tryz.stringslite_Index_one s b w).mono fun e w' ⟨he, hw⟩ => ⟨by rw [he, h], hw ▸ Below.refl _ _⟩
theorem ton_lit (k : Nat) (n : Int) (s : ByteArray) (r : V3) (h1 : s.size ≤ 2000) (h2 : -9223372036854775808 ≤ n ∧ n ≤ 9223372036854775807) (h : cvR 1 k n s = r) (w : World) (hT : Tb w) : Calls Tryz.prog 104 #[.agg #[.int .u8 (k : Int), .int .i64 n, .string s]] w fun e w' => e = .returned (.agg #[.int .u8 (r.1 : Int), .int .i64 r.2.1, .string r.2.2]) ∧ Below w.heap.size w w' :=
  (vto_num k n s h1 h2 w hT).mono fun e w' ⟨he, hB⟩ => ⟨by rw [he, h], hB⟩
theorem tot_lit (k : Nat) (n : Int) (s : ByteArray) (r : V3) (h1 : s.size ≤ 2000) (h2 : -9223372036854775808 ≤ n ∧ n ≤ 9223372036854775807) (h : cvR 3 k n s = r) (w : World) (hT : Tb w) : Calls Tryz.prog 103 #[.agg #[.int .u8 (k : Int), .int .i64 n, .string s]] w fun e w' => e = .returned (.agg #[.int .u8 (r.1 : Int), .int .i64 r.2.1, .string r.2.2]) ∧ Below w.heap.size w w' :=
  (vto_text k n s h1 h2 w hT).mono fun e w' ⟨he, hB⟩ => ⟨by rw [he, h], hB⟩
set_option maxRecDepth 100000 in
theorem awake14 (w : World) (hT : Tb w) : Calls Tryz.prog 21 #[] w fun e w' => e = .returned (.bool true) ∧ Below w.heap.size w w' :=
  va_call (facts := []) (tab := [(101, [.string ⟨#[97, 98]⟩, .int .i64 2], .string ⟨#[97, 98, 97, 98]⟩), (101, [.string ⟨#[97, 98]⟩, .int .i64 200], .string ⟨#[97, 98, 97, 98, 97, 98, 97, 98, 97, 98, 97, 98, 97, 98, 97, 98, 97, 98, 97, 98, 97, 98, 97, 98, 97, 98, 97, 98, 97, 98, 97, 98, 97, 98, 97, 98, 97, 98, 97, 98, 97, 98, 97, 98, 97, 98, 97, 98, 97, 98, 97, 98, 97, 98, 97, 98, 97, 98, 97, 98, 97, 98, 97, 98, 97, 98, 97, 98, 97, 98, 97, 98, 97, 98, 97, 98, 97, 98, 97, 98, 97, 98, 97, 98, 97, 98, 97, 98, 97, 98, 97, 98, 97, 98, 97, 98, 97, 98, 97, 98, 97, 98, 97, 98, 97, 98, 97, 98, 97, 98, 97, 98, 97, 98, 97, 98, 97, 98, 97, 98, 97, 98, 97, 98, 97, 98, 97, 98, 97, 98, 97, 98, 97, 98, 97, 98, 97, 98, 97, 98, 97, 98, 97, 98, 97, 98, 97, 98, 97, 98, 97, 98, 97, 98, 97, 98, 97, 98, 97, 98, 97, 98, 97, 98, 97, 98, 97, 98, 97, 98, 97, 98, 97, 98, 97, 98, 97, 98, 97, 98, 97, 98, 97, 98, 97, 98, 97, 98, 97, 98, 97, 98, 97, 98, 97, 98, 97, 98, 97, 98, 97, 98, 97, 98, 97, 98, 97, 98, 97, 98, 97, 98, 97, 98, 97, 98, 97, 98, 97, 98, 97, 98, 97, 98, 97, 98, 97, 98, 97, 98, 97, 98, 97, 98, 97, 98, 97, 98, 97, 98, 97, 98, 97, 98, 97, 98, 97, 98, 97, 98, 97, 98, 97, 98, 97, 98, 97, 98, 97, 98, 97, 98, 97, 98, 97, 98, 97, 98, 97, 98, 97, 98, 97, 98, 97, 98, 97, 98, 97, 98, 97, 98, 97, 98, 97, 98, 97, 98, 97, 98, 97, 98, 97, 98, 97, 98, 97, 98, 97, 98, 97, 98, 97, 98, 97, 98, 97, 98, 97, 98, 97, 98, 97, 98, 97, 98, 97, 98, 97, 98, 97, 98, 97, 98, 97, 98, 97, 98, 97, 98, 97, 98, 97, 98, 97, 98, 97, 98, 97, 98, 97, 98, 97, 98, 97, 98, 97, 98, 97, 98, 97, 98, 97, 98, 97, 98, 97, 98, 97, 98, 97, 98, 97, 98, 97, 98, 97, 98, 97, 98, 97, 98, 97, 98, 97, 98, 97, 98, 97, 98, 97, 98, 97, 98, 97, 98, 97, 98, 97, 98, 97, 98, 97, 98, 97, 98, 97, 98, 97, 98]⟩), (214, [.string ⟨#[97, 98, 99, 98]⟩, .string ⟨#[98]⟩], .int .i64 1), (214, [.string ⟨#[99, 98]⟩, .string ⟨#[98]⟩], .int .i64 1), (214, [.string ⟨#[97, 98, 99]⟩, .string ⟨#[66]⟩], .int .i64 (-1)), (104, [.agg #[.int .u8 3, .int .i64 0, .string ⟨#[49, 46, 53]⟩]], .agg #[.int .u8 1, .int .i64 15000, .string ⟨#[]⟩]), (104, [.agg #[.int .u8 3, .int .i64 0, .string ⟨#[120]⟩]], .agg #[.int .u8 4, .int .i64 2, .string ⟨#[]⟩]), (103, [.agg #[.int .u8 1, .int .i64 125000, .string ⟨#[]⟩]], .agg #[.int .u8 3, .int .i64 0, .string ⟨#[49, 50, 46, 53]⟩])]) (σ := symOf []) (symOf_one rfl) hT (foks_nil) (toks_cons (Sx.tok rfl rfl rfl rfl (fun W _ => rep_lit ⟨#[97, 98]⟩ 2 _ (by decide) (by decide) (by kernel_rfl) W)) (toks_cons (Sx.tok rfl rfl rfl rfl (fun W _ => rep_lit ⟨#[97, 98]⟩ 200 _ (by decide) (by decide) (by kernel_rfl) W)) (toks_cons (Sx.tok rfl rfl rfl rfl (fun W _ => idx_lit ⟨#[97, 98, 99, 98]⟩ 98 _ (by kernel_rfl) W)) (toks_cons (Sx.tok rfl rfl rfl rfl (fun W _ => idx_lit ⟨#[99, 98]⟩ 98 _ (by kernel_rfl) W)) (toks_cons (Sx.tok rfl rfl rfl rfl (fun W _ => idx_lit ⟨#[97, 98, 99]⟩ 66 _ (by kernel_rfl) W)) (toks_cons (Sx.tok rfl rfl rfl rfl (fun W hW => ton_lit 3 0 ⟨#[49, 46, 53]⟩ (1, 15000, ⟨#[]⟩) (by decide) (by decide) (by kernel_rfl) W (hT.at hW))) (toks_cons (Sx.tok rfl rfl rfl rfl (fun W hW => ton_lit 3 0 ⟨#[120]⟩ (4, 2, ⟨#[]⟩) (by decide) (by decide) (by kernel_rfl) W (hT.at hW))) (toks_cons (Sx.tok rfl rfl rfl rfl (fun W hW => tot_lit 1 125000 ⟨#[]⟩ (3, 0, ⟨#[49, 50, 46, 53]⟩) (by decide) (by decide) (by kernel_rfl) W (hT.at hW))) (toks_nil))))))))) (args := []) (v := .bool true) (by kernel_rfl) rfl rfl
end Go.Proofs.YtfjefanhkbcfgaaGreatDoor.Va
/- ftext: what the law's of returns, function by function. -/
namespace Go.Proofs.YtfjefanhkbcfgaaGreatDoor.Va
open Go Go.RowKit GM
set_option linter.unusedVariables false
set_option linter.unusedSimpArgs false
def tv (s : ByteArray) : V3 := (3, 0, s)
def nv (n : Int) : V3 := (1, n, ⟨#[]⟩)
/-- The arguments, of the kinds that are asked. -/
def Kd : List UInt8 → List V3 → List ByteArray → List Int → Prop
  | _, [], T, W => T = [] ∧ W = []
  | c :: cs, v :: L, T, W => (∃ s T', c = 115 ∧ v = tv s ∧ chk s.data.toList = 0 ∧ T = s :: T' ∧ Kd cs L T' W) ∨ (∃ k W', c = 110 ∧ v = nv (k * 10000) ∧ 0 ≤ k ∧ k ≤ 1000000000 ∧ W = k :: W' ∧ Kd cs L T W')
  | [], _ :: _, _, _ => False
end Go.Proofs.YtfjefanhkbcfgaaGreatDoor.Va
/- ftext: the law's helpers. -/
namespace Go.Proofs.YtfjefanhkbcfgaaGreatDoor.Va
open Go Go.RowKit GM
set_option linter.unusedVariables false
set_option linter.unusedSimpArgs false
theorem OwnB.later {B : Nat} {w w1 : World} {v : Value} {l : List UInt8} (h : OwnB B w v l) (hb : Below w.heap.size w w1) : OwnB B w1 v l := by
  obtain ⟨h1, h2⟩ := h
  refine ⟨h1, ?_⟩
  rcases h2 with h2 | ⟨g, cap, cur, rfl, hg, hh, hrest⟩
  · exact .inl h2
  · refine .inr ⟨g, cap, cur, rfl, hg, ?_, hrest⟩
    rw [hb.block g (Array.getElem?_eq_some_iff.1 hh).1]; exact hh
end Go.Proofs.YtfjefanhkbcfgaaGreatDoor.Va
/- ftext: what repeating and joining keep. -/
namespace Go.Proofs.YtfjefanhkbcfgaaGreatDoor.Va
open Go Go.RowKit GM
set_option linter.unusedVariables false
set_option linter.unusedSimpArgs false
theorem dlen (s : ByteArray) : s.data.toList.length = s.size := Array.length_toList
theorem app_data (s t : ByteArray) : (s ++ t).data.toList = s.data.toList ++ t.data.toList := by rw [ByteArray.data_append]; simp
end Go.Proofs.YtfjefanhkbcfgaaGreatDoor.Va
