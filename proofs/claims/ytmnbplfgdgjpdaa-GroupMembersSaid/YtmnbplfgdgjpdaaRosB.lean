/- Contract of roster.In. -/
import Derived.Test.YtmnbplfgdgjpdaaRosA
import Derived.Test.YtmnbplfgdgjpdaaRosC
import Derived.Deep.MidRow
import Derived.Deep.Cut
namespace Go.Proofs.Ytmnbplfgdgjpdaa
open Go.RowKit
theorem runTo {P : Program} {ops : Array Oper} {rest : List Oper} {o : Oper} {a : Act} {w : World} {Q : Exit → Act → World → Prop} (hg : o.guard = none) (dst : Option Tmp) (hdst : o.dst = dst)
    (v : Value) (w' : World) (hrun : (execOp a.eval o).run P w = .ok (.value v) w')
    (h : wpList P ops Q rest (a.put dst v) w') : wpList P ops Q (o :: rest) a w := by
  subst hdst
  refine wpList_plain hg fun K hK => ?_
  unfold Oper.wp
  rw [hrun, Oper.upon_value]
  exact hK _ _ h
def iV (u : Nat) : Value := .int .i64 (u : Int)
def OwnI (B : Nat) (w : World) (v : Value) (l : List Nat) : Prop := w.ownsRow B 3 1 v l.length (l.map iV)
theorem int_info : (Try.prog.info? 3).map (fun i => (i.zero, i.size, i.bytes)) = some (some (.int .i64 0), 1, 8) := by kernel_rfl
theorem OwnI.nil (B : Nat) (w : World) : OwnI B w (.slice none 0 0) [] := World.ownsRow_nil _ _ _ _
theorem OwnI.alloc {B : Nat} {w : World} {v : Value} {l : List Nat} (h : OwnI B w v l) (o : Obj) : OwnI B (w.alloc o) v l := World.ownsRow.alloc h o
theorem OwnI.drew {B : Nat} {w : World} {v : Value} {l : List Nat} (h : OwnI B w v l) : OwnI B w.drew v l := h
theorem OwnI.isI {B : Nat} {w : World} {v : Value} {l : List Nat} (h : OwnI B w v l) : ∃ a cap, v = .slice a l.length cap ∧ IsI w a l.length l := by
  rcases h.2 with ⟨rfl, h0⟩ | ⟨g, cap, cur, rfl, hg, hh, hc, _⟩
  · exact ⟨none, 0, by rw [h0], rfl, fun h => by omega⟩
  · refine ⟨_, cap, rfl, rfl, fun _ => ⟨⟨g, 0, none⟩, rfl, (Array.getElem?_eq_some_iff.1 hh).1, fun i u hi => ?_⟩⟩
    have hk := World.ownsRow.cells h (g := g) rfl i (iV u) (by simp [hi])
    simpa [Addr.add, iV] using hk
theorem wpList_appI {ops : Array Oper} {rest : List Oper} {o : Oper} {a : Act} {w : World} {Q : Exit → Act → World → Prop} (hgd : o.guard = none) (s x : Operand)
    (ho : o.op = .call { callee := .builtin .append, args := #[s, x], argTypes := #[22, 22] }) (B : Nat) (v : Value) (l : List Nat) (hs : a.eval s = v) (hown : OwnI B w v l)
    (g : Nat) (c : Nat) (hx : a.eval x = .slice (some ⟨g, 0, none⟩) 1 1) (hc : w.cell? ⟨g, 0, none⟩ = some (iV c)) (hl : l.length ≤ 1000000) (hB : B ≤ w.heap.size)
    (h : ∀ v' w', OwnI B w' v' (l ++ [c]) → Below B w w' → wpList Try.prog ops Q rest (a.put o.dst v') w') : wpList Try.prog ops Q (o :: rest) a w := by
  obtain ⟨i0, hi, hz0, hz1, hz2⟩ := info_parts int_info
  refine wpList_append_own w hgd s x 22 ho B 3 i0 (.int .i64 0) 1 8 Try.underlying22 hi hz0 hz1 hz2 rfl (by decide) v l.length (l.map iV) hs hown ⟨g, 0, none⟩ 1 1 [iV c] hx rfl ?_ ?_ ?_ ?_ hB ?_
  · intro j u hj
    match j, hj with
    | 0, hj => simp at hj; subst hj; exact hc
  · intro u hu; simp at hu; subst hu; rfl
  · unfold maxLen; omega
  · omega
  · intro v' w' ho' hg _
    refine h v' w' ?_ ((Below.refl _ _).grown hg hB (fun k hk => (World.ownsRow.lt hown k hk).1))
    unfold OwnI
    rw [List.length_append, List.map_append]; exact ho'
/-- Who is in, of the first k. -/
def memL (S : Nat → Bool) (k : Nat) : List Nat := (List.range k).filter S
theorem memL_succ (S : Nat → Bool) (k : Nat) : memL S (k + 1) = if S k then memL S k ++ [k] else memL S k := by
  unfold memL
  rw [List.range_succ, List.filter_append]
  cases h : S k <;> simp [h]
theorem memL_lt (S : Nat → Bool) (k : Nat) : ∀ u ∈ memL S k, u < k := by intro u hu; unfold memL at hu; simp at hu; exact hu.1
theorem memL_length (S : Nat → Bool) (k : Nat) : (memL S k).length ≤ k := by unfold memL; have := List.length_filter_le S (List.range k); simpa using this
def seatL (S : Nat → Bool) : List Value := (List.range 64).map fun i => Value.int .i64 (bitI (S i))
theorem seatL_at (S : Nat → Bool) (i : Nat) (h : i < 64) : (seatL S)[i]? = some (.int .i64 (bitI (S i))) := by
  unfold seatL
  simp [h]
theorem seatL_length (S : Nat → Bool) : (seatL S).length = 64 := by unfold seatL; simp
theorem seats_range {w : World} {b : Nat} {n : Int} {S : Nat → Bool} (h : Ros w b n S) : w.rangeAt b 1 (seatL S) := by
  intro j v hv
  have hj : j < 64 := by
    have := (List.getElem?_eq_some_iff.1 hv).1
    rwa [seatL_length] at this
  rw [seatL_at S j hj] at hv
  cases hv
  exact h.2.2.1 j hj
theorem info62 : (Try.prog.info? 62).map (·.size) = some 64 := by kernel_rfl
theorem index_seat (cs : List Value) (k : Nat) (hk : k < 64) (v : Value) (hv : cs[k]? = some v) (w : World) :
    (Instr.index 62 (.agg cs.toArray) (.int .i64 (k : Int))).run Try.prog w = .ok (.agg #[v]) w := by
  have hx : List.take 1 (List.drop k cs) = [v] := by
    obtain ⟨h1, h2⟩ := List.getElem?_eq_some_iff.1 hv
    simp [List.drop_eq_getElem_cons h1, h2]
  have h1 : (0 : Int) ≤ (k : Int) ∧ (k : Int) < ((64 : Nat) : Int) := by omega
  simp [Instr.index, asIntOf, hk, part, hx]
set_option maxHeartbeats 800000 in
theorem rin_any (b : Nat) (n : Int) (S : Nat → Bool) (w : World) (hr : Ros w b n S) :
    Calls Try.prog 24 #[.pointer (some ⟨b, 0, none⟩)] w fun e w' => e = .returned (.int .u64 ((orL (memL S 64)).toNat : Int)) ∧ Below w.heap.size w w' := by
  have HR := Lib.hid hr
  have hrg := Lib.hid (seats_range hr)
  have hcl := Lib.hid (seatL_length S)
  obtain ⟨r0, r1, r2, r3⟩ := hr
  clear r2 r3
  obtain ⟨cs, hcs⟩ : ∃ cs, cs = seatL S := ⟨_, rfl⟩
  rw [← hcs] at hrg hcl
  have HCS := Lib.hid hcs
  clear hcs
  go_enter Try.func24, Try.ntmps24
  go_upto_region 4 with fail
  refine wp_region_lit ?_
  refine runTo rfl _ rfl (.pointer (some ⟨b, 0, none⟩)) w (by rfl) ?_
  refine runTo rfl _ rfl (.pointer (some ⟨b, 0, none⟩)) w (by rfl) ?_
  refine runTo rfl _ rfl (.pointer (some ⟨b, 1, none⟩)) w (by rfl) ?_
  refine wpList_load_mid rfl 62 _ rfl b 1 rfl cs (.array 64 61) hrg.out (by kernel_rfl) rfl (by rw [hcl.out]; exact info62) ?_
  go_wp2_with fail
  go_loopw [3, 14] (fun l i wr => ∃ k : Nat, k ≤ 64 ∧ i = .int .i64 k ∧ OwnI w.heap.size wr l (memL S k) ∧ Below w.heap.size w wr) (fun _ i _ => 64 - (intOf i).toNat)
  case atStart => exact ⟨0, by omega, rfl, OwnI.nil _ _, Below.refl _ _⟩
  case round =>
    obtain ⟨k, hk, rfl, ho, hB⟩ := hrel
    obtain ⟨va, vc, rfl, _⟩ := ho.isI
    have HO := Lib.hid ho
    have HB := Lib.hid hB
    have hz := hB.size
    clear ho hB
    by_cases hlt : k < 64
    · have hix := index_seat cs k hlt (.int .i64 (bitI (S k))) (by rw [HCS.out]; exact seatL_at S k hlt)
      go_wp2_with fail
      refine (in_any _ _).mono ?_
      rintro e w' ⟨rfl, rfl⟩
      rw [bitI_pos]
      cases hs : S k
      · go_wp2_with fail
        go_roundw
        case rel => exact ⟨k + 1, by omega, by go_num, by rw [memL_succ, if_neg (by rw [hs]; decide)]; exact HO.out.alloc _, HB.out.alloc hz _⟩
        case measure => simp [intOf]; omega
      · have HL := Lib.hid (Nat.le_trans (memL_length S k) (show k ≤ 1000000 by omega))
        have HM : Hid (memL S (k + 1) = memL S k ++ [k]) := by unfold Hid; rw [memL_succ, if_pos hs]
        go_wp2_with (at_builtin; refine wpList_appI rfl (.tmp 21) _ rfl w.heap.size _ _ rfl ((HO.out.alloc _).alloc _) (wr.heap.size + 1) k rfl (by simp [iV]) HL.out (by simp; omega) ?_)
        intro v1 w5 ho5 hb5
        have HO5 := Lib.hid ho5
        have HB5 := Lib.hid (((HB.out.alloc hz _).alloc (by simp; omega) _).trans hb5)
        clear ho5 hb5
        go_wp2_with fail
        go_roundw
        case rel => exact ⟨k + 1, by omega, by go_num, by rw [HM.out]; exact HO5.out, HB5.out⟩
        case measure => simp [intOf]; omega
    · obtain rfl : k = 64 := by omega
      obtain ⟨a, cap, ea, hi⟩ := HO.out.isI
      cases ea
      go_wp2_with fail
      refine (of_any _ _ _ (memL S 64) _ (by have := memL_length S 64; unfold maxLen; omega) hi (memL_lt S 64)).mono ?_
      rintro e w' ⟨rfl, rfl⟩
      go_wp2_with fail
      go_ret
      exact ⟨rfl, HB.out⟩
end Go.Proofs.Ytmnbplfgdgjpdaa
