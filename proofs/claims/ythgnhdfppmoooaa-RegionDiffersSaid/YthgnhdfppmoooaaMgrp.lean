/- Merged: BitA RosA RosC RosB GrpA GrpB GrpC GrpS. -/
import Derived.Test.YthgnhdfppmoooaaProg
import Derived.WalkKit
import Derived.WalkSpells
import Derived.WalkLawsBesides
import Derived.Lib.Hide
import Derived.BigQuiet
import Derived.Deep.QuietTactic
import Derived.Outline
import Derived.RegionTactic
import Derived.BigRegion
import Derived.StillTailTactics
import Derived.Laws.OwnMore
import Derived.Deep.MidRow
import Derived.Deep.Cut
import Derived.RangeFuncNested
import Derived.RangeFuncBound
import Derived.RangeFuncCalls
import Derived.RangeFuncLeaves
import Derived.Shelf.Abstract
import Derived.Shelf.RegionOpen
import Derived.OwnWalkIn
import Derived.TacticsInMore
import Derived.LoopNIn
import Derived.LoopIn
import Derived.RangeFuncBox
import Derived.Maps.AppendAt
import Derived.Lib.MinMax
/- Sets of users as words of 64 bits: the runs of the operations, and the contracts of valid, Has and Meet. -/
namespace Go.Proofs.Ythgnhdfppmoooaa
open Go.RowKit
abbrev W64 := BitVec 64
def uV (x : W64) : Value := .int .u64 (x.toNat : Int)
theorem retB {a b : Bool} (h : a = b) : Ending.returned (.bool a) = .returned (.bool b) := by rw [h]
theorem retI {k : IntKind} {a b : Int} (h : a = b) : Ending.returned (.int k a) = .returned (.int k b) := by rw [h]
theorem ofInt_toNat (x : W64) : BitVec.ofInt 64 (x.toNat : Int) = x := by
  apply BitVec.eq_of_toNat_eq
  simp
theorem wrap_toNat (x : W64) : IntKind.u64.wrap (x.toNat : Int) = (x.toNat : Int) := by
  have := x.isLt
  simp [IntKind.wrap, IntKind.bits, IntKind.signed]
  omega
theorem bits_and (x y : W64) : bits .and .u64 (x.toNat : Int) (y.toNat : Int) = ((x &&& y).toNat : Int) := by
  unfold bits
  simp only [IntKind.bits, ofInt_toNat]
  exact wrap_toNat _
theorem bits_or (x y : W64) : bits .or .u64 (x.toNat : Int) (y.toNat : Int) = ((x ||| y).toNat : Int) := by
  unfold bits
  simp only [IntKind.bits, ofInt_toNat]
  exact wrap_toNat _
theorem bits_andNot (x y : W64) : bits .andNot .u64 (x.toNat : Int) (y.toNat : Int) = ((x &&& ~~~y).toNat : Int) := by
  unfold bits
  simp only [IntKind.bits, ofInt_toNat]
  exact wrap_toNat _
theorem shr_int (x : W64) (n : Nat) : (x.toNat : Int) / 2 ^ n = ((x >>> n).toNat : Int) := by
  rw [BitVec.toNat_ushiftRight, Nat.shiftRight_eq_div_pow]
  simp
theorem has_bits (x : W64) (n : Nat) : (bits .and .u64 ((x.toNat : Int) / 2 ^ n) 1 == 1) = x.getLsbD n := by
  rw [shr_int, show (1 : Int) = ((1#64).toNat : Int) by decide, bits_and]
  rw [Bool.eq_iff_iff, beq_iff_eq]
  have h : (x >>> n) &&& 1#64 = if x.getLsbD n then 1#64 else 0#64 := by
    apply BitVec.eq_of_getLsbD_eq
    intro i hi
    cases hb : x.getLsbD n <;> cases i <;> simp_all
  rw [h]
  cases x.getLsbD n <;> simp
def vld (u : Int) : Bool := decide (0 ≤ u ∧ u < 64)
theorem vld_t {u : Int} (h : 0 ≤ u ∧ u < 64) : vld u = true := by unfold vld; exact decide_eq_true h
theorem vld_f {u : Int} (h : ¬ (0 ≤ u ∧ u < 64)) : vld u = false := by unfold vld; exact decide_eq_false h
/-- Whether a set has a user. -/
def hasB (x : W64) (u : Int) : Bool := vld u && x.getLsbD u.toNat
/-- A slice of words. -/
def IsU (w : World) (a : Option Addr) (len : Nat) (L : List W64) : Prop := L.length = len ∧ (0 < len → ∃ x, a = some x ∧ x.block < w.heap.size ∧ ∀ i (h : i < L.length), w.cell? (x.add i) = some (.int .u64 (L[i].toNat : Int)))
def meetL (L : List W64) : W64 := L.foldl (· &&& ·) (BitVec.allOnes 64)
theorem meet_snoc (L : List W64) (x : W64) : meetL (L ++ [x]) = meetL L &&& x := by unfold meetL; rw [List.foldl_append]; rfl
end Go.Proofs.Ythgnhdfppmoooaa
/- Contracts of roster: New, change, Login, Logout, In. -/
namespace Go.Proofs.Ythgnhdfppmoooaa
open Go.RowKit
theorem bcell {W w1 : World} (hb : Below W.heap.size W w1) : (∀ b o, b < W.heap.size → w1.cell? ⟨b, o, none⟩ = W.cell? ⟨b, o, none⟩) ∧ (∀ b o, b < W.heap.size → w1.frozen? ⟨b, o, none⟩ = W.frozen? ⟨b, o, none⟩) :=
  ⟨fun b o h => hb.cell (p := ⟨b, o, none⟩) h, fun b o h => hb.frozen (p := ⟨b, o, none⟩) h⟩
theorem Below.next {W w1 w2 : World} (h : Below W.heap.size W w1) (k : Below w1.heap.size w1 w2) : Below W.heap.size W w2 := h.trans (k.mono h.size)
def bitI (b : Bool) : Int := if b then 1 else 0
/-- Block b holds a roster of n users; S: who is logged in. -/
def Ros (w : World) (b : Nat) (n : Int) (S : Nat → Bool) : Prop :=
  b < w.heap.size ∧ w.cell? ⟨b, 0, none⟩ = some (.int .i64 n) ∧ (∀ i, i < 64 → w.cell? ⟨b, 1 + i, none⟩ = some (.int .i64 (bitI (S i)))) ∧ ∀ o, w.frozen? ⟨b, o, none⟩ = false
def Z65 : Array Value := Array.replicate 65 (.int .i64 0)
theorem Z65_ne : ¬ Z65 = #[] := by intro h; have := congrArg Array.size h; unfold Z65 at this; simp at this
def rosC (n : Int) : Array Value := Z65.setIfInBounds 0 (.int .i64 n)
theorem rosC_eq (n : Int) : Z65.setIfInBounds 0 (.int .i64 n) = rosC n := rfl
theorem rosC_0 (n : Int) : (rosC n)[0]? = some (.int .i64 n) := by simp [rosC, Z65]
theorem rosC_i (n : Int) (i : Nat) (h : i < 64) : (rosC n)[1 + i]? = some (.int .i64 0) := by
  unfold rosC Z65
  rw [Array.getElem?_setIfInBounds_ne (by omega), Array.getElem?_eq_getElem (by simp; omega), Array.getElem_replicate]
theorem below_alloc (w : World) (o : Obj) : Below w.heap.size w (w.alloc o) := (Below.refl _ _).alloc (Nat.le_refl _) _
theorem Ros.later {w w' : World} {b : Nat} {n : Int} {S : Nat → Bool} (h : Ros w b n S) (hB : Below w.heap.size w w') : Ros w' b n S := by
  obtain ⟨h0, h1, h2, h3⟩ := h
  obtain ⟨hc, hf⟩ := bcell hB
  have hz := hB.size
  exact ⟨by omega, by rw [hc _ _ h0]; exact h1, fun i hi => by rw [hc _ _ h0]; exact h2 i hi, fun o => by rw [hf _ _ h0]; exact h3 o⟩
theorem bitI_pos (b : Bool) : decide (0 < bitI b) = b := by cases b <;> rfl
def updS (S : Nat → Bool) (u : Nat) (v : Bool) : Nat → Bool := fun i => if i = u then v else S i
theorem Ros.set {w : World} {b : Nat} {n : Int} {S : Nat → Bool} (h : Ros w b n S) (u : Nat) (hu : u < 64) (v : Bool) : Ros (w.setCell ⟨b, 1 + u, none⟩ (.int .i64 (bitI v))).drew b n (updS S u v) := by
  obtain ⟨h0, h1, h2, h3⟩ := h
  refine ⟨by simpa using h0, ?_, fun i hi => ?_, fun o => by simpa using h3 o⟩
  · show (w.setCell _ _).cell? _ = _
    rw [World.cell?_setCell_other _ _ _ _ (by simp)]; exact h1
  · show (w.setCell _ _).cell? _ = _
    unfold updS
    by_cases hiu : i = u
    · subst hiu
      rw [World.cell?_setCell_same _ _ _ (h2 i hi), if_pos rfl]
    · rw [World.cell?_setCell_other _ _ _ _ (by simp), if_neg hiu]; exact h2 i hi
end Go.Proofs.Ythgnhdfppmoooaa
/- Contract of group.Of. -/
namespace Go.Proofs.Ythgnhdfppmoooaa
open Go.RowKit
/-- A slice of users. -/
def IsI (w : World) (a : Option Addr) (len : Nat) (L : List Nat) : Prop := L.length = len ∧ (0 < len → ∃ x, a = some x ∧ x.block < w.heap.size ∧ ∀ (i u : Nat), L[i]? = some u → w.cell? (x.add i) = some (.int .i64 (u : Int)))
def orL (L : List Nat) : W64 := L.foldl (fun s u => s ||| (1#64 <<< u)) 0#64
theorem orL_snoc (L : List Nat) (u : Nat) : orL (L ++ [u]) = orL L ||| (1#64 <<< u) := by unfold orL; rw [List.foldl_append]; rfl
theorem shl_one (y : Nat) : IntKind.u64.wrap ((2 : Int) ^ y) = ((1#64 <<< y).toNat : Int) := by
  rw [BitVec.toNat_shiftLeft]
  simp [IntKind.wrap, IntKind.bits, IntKind.signed, Nat.shiftLeft_eq]
end Go.Proofs.Ythgnhdfppmoooaa
/- Contract of roster.In. -/
namespace Go.Proofs.Ythgnhdfppmoooaa
open Go.RowKit
theorem runTo {P : Program} {ops : Array Oper} {rest : List Oper} {o : Oper} {a : Act} {w : World} {Q : Exit → Act → World → Prop} (hg : o.guard = none) (dst : Option Tmp) (hdst : o.dst = dst)
    (v : Value) (w' : World) (hrun : (execOp a.eval o).run P w = .ok (.value v) w')
    (h : wpList P ops Q rest (a.put dst v) w') : wpList P ops Q (o :: rest) a w := by
  subst hdst
  refine wpList_plain hg fun K hK => ?_
  unfold Oper.wp
  rw [hrun, Oper.upon_value]
  exact hK _ _ h
def iV (u : Nat) : Value := .int .i64 (u : Int)
def OwnI (B : Nat) (w : World) (v : Value) (l : List Nat) : Prop := w.ownsRow B 3 1 v l.length (l.map iV)
theorem int_info : (Try.prog.info? 3).map (fun i => (i.zero, i.size, i.bytes)) = some (some (.int .i64 0), 1, 8) := by kernel_rfl
theorem OwnI.nil (B : Nat) (w : World) : OwnI B w (.slice none 0 0) [] := World.ownsRow_nil _ _ _ _
theorem OwnI.alloc {B : Nat} {w : World} {v : Value} {l : List Nat} (h : OwnI B w v l) (o : Obj) : OwnI B (w.alloc o) v l := World.ownsRow.alloc h o
theorem OwnI.drew {B : Nat} {w : World} {v : Value} {l : List Nat} (h : OwnI B w v l) : OwnI B w.drew v l := h
theorem OwnI.isI {B : Nat} {w : World} {v : Value} {l : List Nat} (h : OwnI B w v l) : ∃ a cap, v = .slice a l.length cap ∧ IsI w a l.length l := by
  rcases h.2 with ⟨rfl, h0⟩ | ⟨g, cap, cur, rfl, hg, hh, hc, _⟩
  · exact ⟨none, 0, by rw [h0], rfl, fun h => by omega⟩
  · refine ⟨_, cap, rfl, rfl, fun _ => ⟨⟨g, 0, none⟩, rfl, (Array.getElem?_eq_some_iff.1 hh).1, fun i u hi => ?_⟩⟩
    have hk := World.ownsRow.cells h (g := g) rfl i (iV u) (by simp [hi])
    simpa [Addr.add, iV] using hk
theorem wpList_appI {ops : Array Oper} {rest : List Oper} {o : Oper} {a : Act} {w : World} {Q : Exit → Act → World → Prop} (hgd : o.guard = none) (s x : Operand)
    (ho : o.op = .call { callee := .builtin .append, args := #[s, x], argTypes := #[70, 70] }) (B : Nat) (v : Value) (l : List Nat) (hs : a.eval s = v) (hown : OwnI B w v l)
    (g : Nat) (c : Nat) (hx : a.eval x = .slice (some ⟨g, 0, none⟩) 1 1) (hc : w.cell? ⟨g, 0, none⟩ = some (iV c)) (hl : l.length ≤ 1000000) (hB : B ≤ w.heap.size)
    (h : ∀ v' w', OwnI B w' v' (l ++ [c]) → Below B w w' → wpList Try.prog ops Q rest (a.put o.dst v') w') : wpList Try.prog ops Q (o :: rest) a w := by
  obtain ⟨i0, hi, hz0, hz1, hz2⟩ := info_parts int_info
  refine wpList_append_own w hgd s x 70 ho B 3 i0 (.int .i64 0) 1 8 Try.underlying70 hi hz0 hz1 hz2 rfl (by decide) v l.length (l.map iV) hs hown ⟨g, 0, none⟩ 1 1 [iV c] hx rfl ?_ ?_ ?_ ?_ hB ?_
  · intro j u hj
    match j, hj with
    | 0, hj => simp at hj; subst hj; exact hc
  · intro u hu; simp at hu; subst hu; rfl
  · unfold maxLen; omega
  · omega
  · intro v' w' ho' hg _
    refine h v' w' ?_ ((Below.refl _ _).grown hg hB (fun k hk => (World.ownsRow.lt hown k hk).1))
    unfold OwnI
    rw [List.length_append, List.map_append]; exact ho'
/-- Who is in, of the first k. -/
def memL (S : Nat → Bool) (k : Nat) : List Nat := (List.range k).filter S
theorem memL_succ (S : Nat → Bool) (k : Nat) : memL S (k + 1) = if S k then memL S k ++ [k] else memL S k := by
  unfold memL
  rw [List.range_succ, List.filter_append]
  cases h : S k <;> simp [h]
theorem memL_lt (S : Nat → Bool) (k : Nat) : ∀ u ∈ memL S k, u < k := by intro u hu; unfold memL at hu; simp at hu; exact hu.1
theorem memL_length (S : Nat → Bool) (k : Nat) : (memL S k).length ≤ k := by unfold memL; have := List.length_filter_le S (List.range k); simpa using this
def seatL (S : Nat → Bool) : List Value := (List.range 64).map fun i => Value.int .i64 (bitI (S i))
theorem seatL_at (S : Nat → Bool) (i : Nat) (h : i < 64) : (seatL S)[i]? = some (.int .i64 (bitI (S i))) := by
  unfold seatL
  simp [h]
theorem seatL_length (S : Nat → Bool) : (seatL S).length = 64 := by unfold seatL; simp
theorem seats_range {w : World} {b : Nat} {n : Int} {S : Nat → Bool} (h : Ros w b n S) : w.rangeAt b 1 (seatL S) := by
  intro j v hv
  have hj : j < 64 := by
    have := (List.getElem?_eq_some_iff.1 hv).1
    rwa [seatL_length] at this
  rw [seatL_at S j hj] at hv
  cases hv
  exact h.2.2.1 j hj
end Go.Proofs.Ythgnhdfppmoooaa
/- The iterator of a set's users. -/
namespace Go.Proofs.Ythgnhdfppmoooaa
open Go.RowKit Go.Shelf
attribute [local go_sem] Oper.semAt_some
def usr (x : W64) : List Nat := memL (fun i => x.getLsbD i) 64
theorem hasB_in (x : W64) (k : Nat) (h : k < 64) : hasB x (k : Int) = x.getLsbD k := by
  unfold hasB; rw [vld_t ⟨by omega, by omega⟩]; simp
theorem memL_pre (S : Nat → Bool) : ∀ d k, memL S k <+: memL S (k + d) := by
  intro d k
  induction d with
  | zero => exact List.prefix_refl _
  | succ d ih =>
    rw [← Nat.add_assoc, memL_succ]
    split
    · exact ih.trans (List.prefix_append _ _)
    · exact ih
/-- What a round that goes on keeps: what lies below n₀, and the set's box. -/
def KeepU (n₀ Bn : Nat) (A B : World) : Prop := Below n₀ A B ∧ B.cell? ⟨Bn, 0, none⟩ = A.cell? ⟨Bn, 0, none⟩
theorem keepU_t {n₀ Bn : Nat} {A B C : World} (h : KeepU n₀ Bn A B) (k : KeepU n₀ Bn B C) : KeepU n₀ Bn A C := ⟨h.1.trans k.1, k.2.trans h.2⟩
theorem keepU_b {n₀ Bn : Nat} {w : World} (hn : n₀ ≤ w.heap.size) (hB : Bn < w.heap.size) (W : World) (l : Nat) (o o' : Obj) (hl : w.heap.size ≤ l) (h : W.heap[l]? = some o) (h1 : o.isCells = false) (h2 : o.isWalk = false) : KeepU n₀ Bn W (W.putObj l o') :=
  ⟨belowK_b hn W l o o' hl h h1 h2, (belowK_b (n₀ := Bn + 1) (w := w) (by omega) W l o o' hl h h1 h2).cell (p := ⟨Bn, 0, none⟩) (Nat.lt_succ_self _)⟩
end Go.Proofs.Ythgnhdfppmoooaa
/- Members: a list collected in a range over a function. -/
namespace Go.Proofs.Ythgnhdfppmoooaa
open Go.RowKit Go.Shelf
attribute [local go_sem] Oper.semAt_some
theorem usr_len (x : W64) : (usr x).length ≤ 64 := memL_length _ 64
end Go.Proofs.Ythgnhdfppmoooaa
/- Members: a list collected in a range over a function. -/
namespace Go.Proofs.Ythgnhdfppmoooaa
open Go.RowKit Go.Shelf
attribute [local go_sem] Oper.semAt_some
end Go.Proofs.Ythgnhdfppmoooaa
/- Contracts of the specification's sets (User, Bit, Of, All, Has, Members, Meet), and of the program's Of and All for any numbers. -/
namespace Go.Proofs.Ythgnhdfppmoooaa
open Go.RowKit
/-- The set of one user. -/
def bitW (k : Nat) : W64 := 1#64 <<< k
theorem sbit_any (u : Nat) (hu : u < 64) (w : World) : Calls Try.prog 56 #[.int .i64 (u : Int)] w fun e w' => e = .returned (.int .u64 ((bitW u).toNat : Int)) ∧ w = w' := by
  go_enter Try.func56, Try.ntmps56
  go_wp2_with fail
  go_ret
  exact ⟨retI (shl_one u), rfl⟩
theorem bit_has (x : W64) (k : Nat) (hk : k < 64) : (bits .and .u64 (x.toNat : Int) ((bitW k).toNat : Int) != 0) = x.getLsbD k := by
  unfold bitW
  rw [bits_and, Bool.eq_iff_iff, bne_iff_ne]
  rw [show (((x &&& 1#64 <<< k).toNat : Int) ≠ 0 ↔ x &&& 1#64 <<< k ≠ 0#64) by
    refine not_congr ⟨fun h => ?_, fun h => by rw [h]; rfl⟩
    apply BitVec.eq_of_toNat_eq; simpa using h]
  have key : ∀ i, i < 64 → (1#64 <<< k).getLsbD i = decide (i = k) := by
    intro i hi
    rw [BitVec.getLsbD_shiftLeft]
    by_cases h : i = k
    · subst h; simp [hi]
    · simp [h]; omega
  constructor
  · intro h
    cases hb : x.getLsbD k with
    | true => rfl
    | false =>
      exfalso; apply h
      apply BitVec.eq_of_getLsbD_eq
      intro i hi
      rw [BitVec.getLsbD_and, key i hi]
      by_cases e : i = k
      · subst e; simp [hb]
      · simp [e]
  · intro h h0
    have h2 : (x &&& 1#64 <<< k).getLsbD k = false := by rw [h0]; simp
    rw [BitVec.getLsbD_and, key k hk, h] at h2
    simp at h2
/-- A slice of whole numbers. -/
def IsZ (w : World) (a : Option Addr) (len : Nat) (L : List Int) : Prop := L.length = len ∧ (0 < len → ∃ x, a = some x ∧ x.block < w.heap.size ∧ ∀ (i : Nat) (u : Int), L[i]? = some u → w.cell? (x.add i) = some (.int .i64 u))
theorem IsZ.later {w w' : World} {a : Option Addr} {n : Nat} {L : List Int} (h : IsZ w a n L) (hB : Below w.heap.size w w') : IsZ w' a n L := by
  refine ⟨h.1, fun h0 => ?_⟩
  obtain ⟨x, rfl, hx, hc⟩ := h.2 h0
  have hz := hB.size
  refine ⟨x, rfl, by omega, fun i u hu => ?_⟩
  rw [hB.cell (p := x.add i) (by unfold Addr.add; split <;> exact hx)]
  exact hc i u hu
def okL (L : List Int) : Bool := L.all vld
def ofS (L : List Int) : Int := if okL L then ((orL (L.map Int.toNat)).toNat : Int) else 0
def ofE (L : List Int) : Int := if okL L then 0 else 3
theorem ofS_t {L : List Int} (h : okL L = true) : ofS L = ((orL (L.map Int.toNat)).toNat : Int) := by unfold ofS; rw [if_pos h]
theorem ofE_t {L : List Int} (h : okL L = true) : ofE L = 0 := by unfold ofE; rw [if_pos h]
theorem okL_f {L : List Int} (k : Nat) (h : k < L.length) (hv : vld L[k] = false) : okL L = false := by
  unfold okL; rw [List.all_eq_false]; exact ⟨_, List.getElem_mem h, by rw [hv]; decide⟩
theorem ofS_f {L : List Int} (h : okL L = false) : ofS L = 0 := by unfold ofS; rw [if_neg (by rw [h]; decide)]
theorem ofE_f {L : List Int} (h : okL L = false) : ofE L = 3 := by unfold ofE; rw [if_neg (by rw [h]; decide)]
theorem okL_snoc (L : List Int) (k : Nat) (h : k < L.length) : okL (L.take (k + 1)) = (okL (L.take k) && vld L[k]) := by
  unfold okL; rw [List.take_succ_eq_append_getElem h, List.all_append]; simp
def orZ (L : List Int) (k : Nat) : W64 := orL ((L.take k).map Int.toNat)
theorem orZ_snoc (L : List Int) (k : Nat) (h : k < L.length) : orZ L (k + 1) = orZ L k ||| (bitW L[k].toNat) := by
  unfold orZ
  rw [List.take_succ_eq_append_getElem h, List.map_append]; exact orL_snoc _ _
theorem orZ_all {L : List Int} (h : okL L = true) (k : Nat) (hk : L.length ≤ k) : ((orZ L k).toNat : Int) = ofS L := by
  rw [ofS_t h]; unfold orZ; rw [List.take_of_length_le hk]
theorem retT {k k' : IntKind} {a b c d : Int} (h : a = c) (h' : b = d) : Ending.returned (.tuple #[.int k a, .int k' b]) = .returned (.tuple #[.int k c, .int k' d]) := by rw [h, h']
def allW (n : Nat) : W64 := orL (List.range n)
theorem allW_succ (n : Nat) : allW (n + 1) = allW n ||| bitW n := by unfold allW; rw [List.range_succ]; exact orL_snoc _ _
theorem sall_in (n : Nat) (hn : n ≤ 64) (w : World) : Calls Try.prog 45 #[.int .i64 (n : Int)] w fun e w' => e = .returned (.tuple #[.int .u64 ((allW n).toNat : Int), .int .i64 0]) ∧ w = w' := by
  go_enter Try.func45, Try.ntmps45
  go_wp2_with fail
  go_loop [4, 5] (fun s i => ∃ k : Nat, k ≤ n ∧ i = .int .i64 k ∧ s = .int .u64 ((allW k).toNat : Int)) (fun _ i => n - (intOf i).toNat)
  case atStart => exact ⟨0, Nat.zero_le _, rfl, rfl⟩
  case round =>
    obtain ⟨k, hk, rfl, rfl⟩ := hrel
    by_cases hlt : k < n
    · have HN := Lib.hid (allW_succ k)
      generalize allW k = s at *
      go_wp2_with fail
      refine (sbit_any k (by omega) _).mono ?_
      rintro e w' ⟨rfl, rfl⟩
      go_wp2_with fail
      go_round
      case rel => exact ⟨k + 1, by omega, by go_num, by rw [HN.out, ← bits_or]⟩
      case measure => simp [intOf]; omega
    · obtain rfl : k = n := by omega
      go_wp2_with fail
      go_ret2
      exact ⟨rfl, rfl⟩
theorem sall_out (n : Int) (h : n < 0 ∨ 64 < n) (w : World) : Calls Try.prog 45 #[.int .i64 n] w fun e w' => e = .returned (.tuple #[.int .u64 0, .int .i64 3]) ∧ w = w' := by
  rcases h with h | h
  · go_enter Try.func45, Try.ntmps45
    go_wp2_with fail
    go_ret2
    exact ⟨rfl, rfl⟩
  · have h0 : ¬ n < 0 := by omega
    go_enter Try.func45, Try.ntmps45
    go_wp2_with fail
    go_ret2
    exact ⟨rfl, rfl⟩
theorem allW_sub : ∀ n, n < 64 → IntKind.u64.wrap (IntKind.u64.wrap (2 ^ n) - 1) = ((allW n).toNat : Int) := by decide +kernel
theorem all_in (n : Nat) (hn : n < 64) (w : World) : Calls Try.prog 38 #[.int .i64 (n : Int)] w fun e w' => e = .returned (.tuple #[.int .u64 ((allW n).toNat : Int), .int .i64 0]) ∧ w = w' := by
  go_enter Try.func38, Try.ntmps38
  go_wp2_with fail
  go_ret2
  refine ⟨retT ?_ rfl, rfl⟩
  exact allW_sub n hn
theorem all_64 (w : World) : Calls Try.prog 38 #[.int .i64 64] w fun e w' => e = .returned (.tuple #[.int .u64 ((allW 64).toNat : Int), .int .i64 0]) ∧ w = w' := by
  go_enter Try.func38, Try.ntmps38
  go_wp2_with fail
  go_ret2
  refine ⟨retT ?_ rfl, rfl⟩
  decide +kernel
theorem all_in' (n : Nat) (hn : n ≤ 64) (w : World) : Calls Try.prog 38 #[.int .i64 (n : Int)] w fun e w' => e = .returned (.tuple #[.int .u64 ((allW n).toNat : Int), .int .i64 0]) ∧ w = w' := by
  by_cases e : n = 64
  · subst e; exact all_64 w
  · exact all_in n (by omega) w
theorem all_out (n : Int) (h : n < 0 ∨ 64 < n) (w : World) : Calls Try.prog 38 #[.int .i64 n] w fun e w' => e = .returned (.tuple #[.int .u64 0, .int .i64 3]) ∧ w = w' := by
  rcases h with h | h
  · go_enter Try.func38, Try.ntmps38
    go_wp2_with fail
    go_ret2
    exact ⟨rfl, rfl⟩
  · have h0 : ¬ n < 0 := by omega
    go_enter Try.func38, Try.ntmps38
    go_wp2_with fail
    go_ret2
    exact ⟨rfl, rfl⟩
theorem allW_64 : allW 64 = BitVec.allOnes 64 := by decide +kernel
end Go.Proofs.Ythgnhdfppmoooaa
