/- Wide numbers in memory: a block that holds one, two blocks that hold a sum's two parts. -/
import Derived.Test.YtdhahiodnmmkeaaGreatDoorDecA
import Derived.Deep.RegionWith
import Derived.Deep.QuietTactic
import Derived.Deep.DeepCutAuto
namespace Go.Proofs.YtdhahiodnmmkeaaGreatDoor
open Go.RowKit
theorem bcell {W w1 : World} (hb : Below W.heap.size W w1) : (∀ b o, b < W.heap.size → w1.cell? ⟨b, o, none⟩ = W.cell? ⟨b, o, none⟩) ∧ (∀ b o, b < W.heap.size → w1.frozen? ⟨b, o, none⟩ = W.frozen? ⟨b, o, none⟩) :=
 ⟨fun b o h => hb.cell (p := ⟨b, o, none⟩) h, fun b o h => hb.frozen (p := ⟨b, o, none⟩) h⟩
theorem Below.next {W w1 w2 : World} (h : Below W.heap.size W w1) (k : Below w1.heap.size w1 w2) : Below W.heap.size W w2 := h.trans (k.mono h.size)
def Hold (w : World) (b : Nat) (h l : Int) : Prop :=
 b < w.heap.size ∧ w.cell? ⟨b, 0, none⟩ = some (.int .u64 h) ∧ w.cell? ⟨b, 1, none⟩ = some (.int .u64 l) ∧ w.frozen? ⟨b, 0, none⟩ = false ∧ w.frozen? ⟨b, 1, none⟩ = false
theorem Hold.later {w w1 : World} {b : Nat} {h l : Int} (x : Hold w b h l) (hb : Below w.heap.size w w1) : Hold w1 b h l := by
 obtain ⟨h0, h1, h2, h3, h4⟩ := x
 obtain ⟨hc, hf⟩ := bcell hb
 exact ⟨Nat.lt_of_lt_of_le h0 hb.size, by rw [hc _ _ h0]; exact h1, by rw [hc _ _ h0]; exact h2, by rw [hf _ _ h0]; exact h3, by rw [hf _ _ h0]; exact h4⟩
theorem Hold.set {w : World} {b : Nat} {h l : Int} (x : Hold w b h l) (h' l' : Int) : Hold ((w.setCell ⟨b, 0, none⟩ (.int .u64 h')).setCell ⟨b, 1, none⟩ (.int .u64 l')) b h' l' := by
 obtain ⟨h0, h1, h2, h3, h4⟩ := x
 have e1 : (w.setCell ⟨b, 0, none⟩ (.int .u64 h')).cell? ⟨b, 1, none⟩ = some (.int .u64 l) := by rw [World.cell?_setCell_other _ _ _ _ (by simp)]; exact h2
 refine ⟨by simpa using h0, ?_, World.cell?_setCell_same _ _ _ e1, by simpa using h3, by simpa using h4⟩
 rw [World.cell?_setCell_other _ _ _ _ (by simp)]; exact World.cell?_setCell_same _ _ _ h1
theorem Hold.other {w : World} {b c : Nat} {h l : Int} (x : Hold w b h l) (hne : c ≠ b) (h' l' : Value) : Hold ((w.setCell ⟨c, 0, none⟩ h').setCell ⟨c, 1, none⟩ l') b h l := by
 obtain ⟨h0, h1, h2, h3, h4⟩ := x
 refine ⟨by simpa using h0, ?_, ?_, by simpa using h3, by simpa using h4⟩ <;>
 · rw [World.cell?_setCell_other _ _ _ _ (fun e => hne (congrArg Addr.block e)), World.cell?_setCell_other _ _ _ _ (fun e => hne (congrArg Addr.block e))]; assumption
theorem Hold.new {w : World} {h l : Int} {t : TypeId} : Hold (w.alloc (.cells #[.int .u64 h, .int .u64 l] t)) w.heap.size h l := by
 refine ⟨by simp, ?_, ?_, ?_, ?_⟩ <;> simp
def Pair (w wx : World) (B : Nat) (z : Int) (k : Int) : Prop :=
 ∃ uh ul dh dl n m, Hold wx B uh ul ∧ Hold wx (B + 1) dh dl ∧ Below w.heap.size w wx ∧ IsW uh ul n ∧ IsW dh dl m ∧ n - m = z ∧ n ≤ k * 9223372036854775808 ∧ m ≤ k * 9223372036854775808
theorem Hold.drew {w : World} {b : Nat} {h l : Int} (x : Hold w b h l) : Hold w.drew b h l := x
theorem Pair.down {w wx w1 : World} {B : Nat} {uh ul dh dl n m z k h l s : Int} (hw : w.heap.size ≤ B) (hu : Hold wx B uh ul) (hd : Hold wx (B + 1) dh dl) (hb : Below w.heap.size w wx) (xu : IsW uh ul n)
 (hz : n - m = z) (hn : n ≤ k * 9223372036854775808) (hm : m ≤ k * 9223372036854775808) (hB : Below wx.heap.size wx w1) (hI : IsW h l (m + s)) (hs : 0 ≤ s ∧ s ≤ 9223372036854775808) :
 Pair w ((w1.setCell ⟨B + 1, 0, none⟩ (.int .u64 h)).setCell ⟨B + 1, 1, none⟩ (.int .u64 l)) B (z - s) (k + 1) :=
 ⟨uh, ul, h, l, n, m + s, (hu.later hB).other (by omega) _ _, (hd.later hB).set _ _, ((hb.trans (hB.mono hb.size)).setCell (by simp; omega) _).setCell (by simp; omega) _, xu, hI, by omega, by omega, by omega⟩
theorem Pair.up {w wx w1 : World} {B : Nat} {uh ul dh dl n m z k h l s : Int} (hw : w.heap.size ≤ B) (hu : Hold wx B uh ul) (hd : Hold wx (B + 1) dh dl) (hb : Below w.heap.size w wx) (xd : IsW dh dl m)
 (hz : n - m = z) (hn : n ≤ k * 9223372036854775808) (hm : m ≤ k * 9223372036854775808) (hB : Below wx.heap.size wx w1) (hI : IsW h l (n + s)) (hs : 0 ≤ s ∧ s ≤ 9223372036854775808) :
 Pair w ((w1.setCell ⟨B, 0, none⟩ (.int .u64 h)).setCell ⟨B, 1, none⟩ (.int .u64 l)) B (z + s) (k + 1) :=
 ⟨h, l, dh, dl, n + s, m, (hu.later hB).set _ _, (hd.later hB).other (by omega) _ _, ((hb.trans (hB.mono hb.size)).setCell (by simp; omega) _).setCell (by simp; omega) _, hI, xd, by omega, by omega, by omega⟩
theorem Pair.ask {w wx : World} {B : Nat} {z k k' : Int} (h : Pair w wx B z k) (e : k = k') : Pair w wx B z k' := e ▸ h
theorem Pair.as {w wx : World} {B : Nat} {z z' k : Int} (h : Pair w wx B z k) (e : z = z') : Pair w wx B z' k := e ▸ h
end Go.Proofs.YtdhahiodnmmkeaaGreatDoor
