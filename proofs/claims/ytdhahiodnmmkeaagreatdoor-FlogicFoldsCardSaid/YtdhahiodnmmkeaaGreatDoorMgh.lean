/- Merged: FtX FtL FtY. -/
import Derived.Test.YtdhahiodnmmkeaaGreatDoorFtE
import Derived.BigQuiet
import Derived.Test.YtdhahiodnmmkeaaGreatDoorFtC
import Derived.DataShut
import Derived.Test.YtdhahiodnmmkeaaGreatDoorMgb
import Derived.Test.YtdhahiodnmmkeaaGreatDoorMge
import Derived.Test.YtdhahiodnmmkeaaGreatDoorMgc
import Derived.Test.YtdhahiodnmmkeaaGreatDoorValZn
/- Merged: FtH FtI FtJ FtK. -/
/- ftext: the examples of the chapter; the law's helpers; of. -/
namespace Go.Proofs.YtdhahiodnmmkeaaGreatDoor.Va
open Go Go.RowKit GM Sx
set_option linter.unusedVariables false
set_option linter.unusedSimpArgs false
end Go.Proofs.YtdhahiodnmmkeaaGreatDoor.Va
/- ftext: what the law's of returns, function by function. -/
namespace Go.Proofs.YtdhahiodnmmkeaaGreatDoor.Va
open Go Go.RowKit GM
set_option linter.unusedVariables false
set_option linter.unusedSimpArgs false
def tv (s : ByteArray) : V3 := (3, 0, s)
def nv (n : Int) : V3 := (1, n, ⟨#[]⟩)
/-- The arguments, of the kinds that are asked. -/
def Kd : List UInt8 → List V3 → List ByteArray → List Int → Prop
  | _, [], T, W => T = [] ∧ W = []
  | c :: cs, v :: L, T, W => (∃ s T', c = 115 ∧ v = tv s ∧ chk s.data.toList = 0 ∧ T = s :: T' ∧ Kd cs L T' W) ∨ (∃ k W', c = 110 ∧ v = nv (k * 10000) ∧ 0 ≤ k ∧ k ≤ 1000000000 ∧ W = k :: W' ∧ Kd cs L T W')
  | [], _ :: _, _, _ => False
end Go.Proofs.YtdhahiodnmmkeaaGreatDoor.Va
/- ftext: the law's helpers. -/
namespace Go.Proofs.YtdhahiodnmmkeaaGreatDoor.Va
open Go Go.RowKit GM
set_option linter.unusedVariables false
set_option linter.unusedSimpArgs false
theorem OwnB.later {B : Nat} {w w1 : World} {v : Value} {l : List UInt8} (h : OwnB B w v l) (hb : Below w.heap.size w w1) : OwnB B w1 v l := by
  obtain ⟨h1, h2⟩ := h
  refine ⟨h1, ?_⟩
  rcases h2 with h2 | ⟨g, cap, cur, rfl, hg, hh, hrest⟩
  · exact .inl h2
  · refine .inr ⟨g, cap, cur, rfl, hg, ?_, hrest⟩
    rw [hb.block g (Array.getElem?_eq_some_iff.1 hh).1]; exact hh
end Go.Proofs.YtdhahiodnmmkeaaGreatDoor.Va
/- ftext: what repeating and joining keep. -/
namespace Go.Proofs.YtdhahiodnmmkeaaGreatDoor.Va
open Go Go.RowKit GM
set_option linter.unusedVariables false
set_option linter.unusedSimpArgs false
theorem dlen (s : ByteArray) : s.data.toList.length = s.size := Array.length_toList
theorem app_data (s t : ByteArray) : (s ++ t).data.toList = s.data.toList ++ t.data.toList := by rw [ByteArray.data_append]; simp
end Go.Proofs.YtdhahiodnmmkeaaGreatDoor.Va
/- ftext: pieces of a text. -/
namespace Go.Proofs.YtdhahiodnmmkeaaGreatDoor.Va
open Go Go.RowKit GM
set_option linter.unusedVariables false
set_option linter.unusedSimpArgs false
theorem ext_data (s : ByteArray) (i j : Nat) : (s.extract i j).data.toList = (s.data.toList.drop i).take (j - i) := by
  rw [ByteArray.data_extract, Array.toList_extract]
theorem ba_ext {s t : ByteArray} (h : s.data.toList = t.data.toList) : s = t := ByteArray.ext (Array.toList_inj.1 h)
theorem pieces {P : ByteArray} {N : Nat} : P.extract 0 (min (N : Int) P.size).toNat ++ midS P ((N : Int) + 1) P.size = P := by
  apply ba_ext
  unfold midS
  rw [app_data, ext_data, ext_data, ext_data, show ((N : Int) + 1 - 1) = (N : Int) by omega]
  have hz := dlen P
  have e : (min (N : Int) (P.size : Int)).toNat = min N P.size := by omega
  rw [e]
  generalize P.data.toList = l at *
  generalize P.size = z at *
  have e2 : (min (z : Int) ((z - min N z : Nat) : Int)).toNat = z - min N z := by omega
  rw [e2, List.drop_zero, Nat.sub_zero, Nat.sub_zero, List.drop_zero, List.take_take, Nat.min_self, List.take_of_length_le (i := z - min N z) (by rw [List.length_drop]; omega)]
  exact List.take_append_drop _ l
/-- Values that lie in blocks of their own, all behind the world at the start. -/
def St (w X : World) (L : List (Nat × V3)) : Prop := Below w.heap.size w X ∧ ∀ q ∈ L, B3 X q.1 q.2.1 q.2.2.1 q.2.2.2
theorem St.next {w X X2 : World} {L : List (Nat × V3)} (h : St w X L) (hB : Below X.heap.size X X2) : St w X2 L := ⟨vnext h.1 hB, fun q hq => (h.2 q hq).later hB⟩
theorem St.add {w X : World} {L : List (Nat × V3)} (h : St w X L) (v : V3) : St w (X.alloc (.cells #[.int .u8 (v.1 : Int), .int .i64 v.2.1, .string v.2.2] 26)) ((X.heap.size, v) :: L) :=
  ⟨vnext h.1 (valloc _ _), fun q hq => by
    rcases List.mem_cons.1 hq with rfl | hq
    · exact B3.start _ _ _ _
    · exact (h.2 q hq).later (valloc _ _)⟩
theorem St.drew {w X : World} {L : List (Nat × V3)} (h : St w X L) : St w { heap := X.heap, tape := X.tape, drawn := X.drawn + 1, os := X.os, output := X.output } L := ⟨h.1.drew, h.2⟩
theorem St.tv {w X : World} {L : List (Nat × V3)} (h : St w X L) {p : Nat} {A : ByteArray} (hm : (p, tv A) ∈ L) : X.cell? ⟨p, 0, none⟩ = some (.int .u8 3) ∧ X.cell? ⟨p, 1, none⟩ = some (.int .i64 0) ∧ X.cell? ⟨p, 2, none⟩ = some (.string A) ∧ p < X.heap.size :=
  have b : B3 X p 3 0 A := h.2 _ hm
  ⟨b.cells.1, b.cells.2.1, b.cells.2.2.1, b.lt⟩
end Go.Proofs.YtdhahiodnmmkeaaGreatDoor.Va
/- Merged: FtO FtP FtQ FtR FtS FtU. -/
/- ftext: the methods trim and value. -/
namespace Go.Proofs.YtdhahiodnmmkeaaGreatDoor.Va
open Go Go.RowKit GM
set_option linter.unusedVariables false
set_option linter.unusedSimpArgs false
def trimS (s : ByteArray) : ByteArray := str (trim s.data.toList)
end Go.Proofs.YtdhahiodnmmkeaaGreatDoor.Va
/- ftext.Call where it answers by an error number. -/
namespace Go.Proofs.YtdhahiodnmmkeaaGreatDoor.Va
open Go Go.RowKit GM
set_option linter.unusedVariables false
set_option linter.unusedSimpArgs false
end Go.Proofs.YtdhahiodnmmkeaaGreatDoor.Va
/- ftext: what the conversion of arguments keeps. -/
namespace Go.Proofs.YtdhahiodnmmkeaaGreatDoor.Va
open Go Go.RowKit GM
set_option linter.unusedVariables false
set_option linter.unusedSimpArgs false
theorem mkN_in {n : Int} (h : InI n) : InI (mkN n) := by
  unfold mkN
  split
  · unfold InI; decide
  · exact h
theorem nb_in (k : Nat) (n : Int) (s : ByteArray) (hv : vE k n s.data.toList = 0) (h1 : ¬ (k = 1 ∨ k = 4)) : InI (nbR k n s).2 := by
  unfold nbR
  split
  · split
    · next hp =>
      have := Tx.par_bd hp
      refine mkN_in ?_
      unfold Tx.mostI at this
      unfold InI
      omega
    · split <;> (unfold InI; decide)
  · next h3 =>
    refine mkN_in ?_
    have hb : n = 0 ∨ n = 1 := by
      unfold vE vldV at hv
      by_cases k0 : k = 0
      · rw [if_pos k0] at hv; simp at hv; exact .inl hv.1
      · rw [if_neg k0, if_neg (fun e => h1 (.inl e))] at hv
        by_cases k2 : k = 2
        · rw [if_pos k2] at hv; simp at hv; exact hv.1
        · rw [if_neg k2, if_neg h3, if_neg (fun e => h1 (.inr e))] at hv
          simp at hv
    unfold InI
    rcases hb with rfl | rfl <;> decide
theorem cv1_in (k : Nat) (n : Int) (s : ByteArray) (hi : InI n) : InI (cvR 1 k n s).2.1 := by
  unfold cvR
  split
  · next hv =>
    split
    · exact hi
    · next h1 =>
      rw [if_pos rfl]
      exact nb_in k n s hv h1
  · unfold InI; decide
end Go.Proofs.YtdhahiodnmmkeaaGreatDoor.Va
/- ftext.Call in full, for arguments that are valid and as many as it asks. -/
namespace Go.Proofs.YtdhahiodnmmkeaaGreatDoor.Va
open Go Go.RowKit GM
set_option linter.unusedVariables false
set_option linter.unusedSimpArgs false
def g0 (T : List ByteArray) : ByteArray := T.getD 0 ⟨#[]⟩
def g1 (T : List ByteArray) : ByteArray := T.getD 1 ⟨#[]⟩
def n0 (W : List Int) : Int := W.getD 0 0
def n1 (W : List Int) : Int := W.getD 1 0
/-- What the function of a number makes of the arguments that are converted. -/
def methV (fn : Nat) (T : List ByteArray) (W : List Int) : V3 :=
  match fn with
  | 31 => cnV ((g0 T).size : Int)
  | 32 => leftV (g0 T) (n0 W)
  | 33 => rightV (g0 T) (n0 W)
  | 34 => midV (g0 T) (n0 W) (n1 W)
  | 35 => txV (upS (g0 T))
  | 36 => txV (loS (g0 T))
  | 37 => txV (trimS (g0 T))
  | 38 => txV (joinB T)
  | 39 => reptV (g0 T) (n0 W)
  | 40 => exactV (g0 T) (g1 T)
  | 41 => findV (g0 T) (g1 T) (n0 W)
  | _ => cvR 1 (txV (g0 T)).1 (txV (g0 T)).2.1 (txV (g0 T)).2.2
def resV (fn : Nat) (R : (List ByteArray × List Int) ⊕ V3) : V3 :=
  match R with
  | .inl p => methV fn p.1 p.2
  | .inr x => x
end Go.Proofs.YtdhahiodnmmkeaaGreatDoor.Va
/- ftext.Call in full. -/
namespace Go.Proofs.YtdhahiodnmmkeaaGreatDoor.Va
open Go Go.RowKit GM
set_option linter.unusedVariables false
set_option linter.unusedSimpArgs false
/-- The kinds of the arguments of a function, and how many it asks at least. -/
def patV (fn : Nat) : ByteArray × Nat :=
  match fn with
  | 32 => (⟨#[115, 110]⟩, 1)
  | 33 => (⟨#[115, 110]⟩, 1)
  | 34 => (⟨#[115, 110, 110]⟩, 3)
  | 38 => (⟨#[115, 115, 115, 115, 115, 115, 115, 115, 115, 115, 115, 115, 115, 115, 115, 115]⟩, 1)
  | 39 => (⟨#[115, 110]⟩, 2)
  | 40 => (⟨#[115, 115]⟩, 2)
  | 41 => (⟨#[115, 115, 110]⟩, 2)
  | _ => (⟨#[115]⟩, 1)
/-- ftext.Call's answer: the value, and the number of the error. -/
def callV (fn : Nat) (L : List V3) : V3 × Int :=
  if fn < 31 ∨ 42 < fn then ((0, 0, ⟨#[]⟩), 10)
  else if L.length < (patV fn).2 ∨ (patV fn).1.size < L.length then ((0, 0, ⟨#[]⟩), 11)
  else if L.all (fun v => decide (vE v.1 v.2.1 v.2.2.data.toList = 0)) = false then ((0, 0, ⟨#[]⟩), 2)
  else (resV fn (convR (patV fn).1.data.toList L [] []), 0)
end Go.Proofs.YtdhahiodnmmkeaaGreatDoor.Va
/- The reference's pieces of a text are the program's. -/
namespace Go.Proofs.YtdhahiodnmmkeaaGreatDoor.Va
open Go Go.RowKit GM
set_option linter.unusedVariables false
set_option linter.unusedSimpArgs false
/-- What the program divides is what the reference divides. -/
theorem trunc_div (a : Int) : (truncZ a).tdiv 10000 = a.tdiv 10000 := by
  have h := Int.tdiv_mul_add_tmod a 10000
  have e : truncZ a = a.tdiv 10000 * 10000 := by unfold truncZ; omega
  rw [e]
  exact Int.mul_tdiv_cancel _ (by decide)
end Go.Proofs.YtdhahiodnmmkeaaGreatDoor.Va
