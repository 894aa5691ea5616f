/- Merged: FuB Lval MakV. -/
import Derived.Test.YtdhahiodnmmkeaaGreatDoorFuA
import Derived.Deep.RegionLaw
import Derived.Lib.MinMax
import Derived.Deep.MidRow
import Derived.Laws.MakeOwn
/- The reference's helpers for lists of values: a copy, cut short; equal lists. -/
namespace Go.Proofs.YtdhahiodnmmkeaaGreatDoor.Va
open Go Go.RowKit GM
set_option linter.unusedVariables false
set_option linter.unusedSimpArgs false
theorem cellsV_one (v : V3) : ∀ u ∈ cellsV v, u.oneCell' = true := by
  intro u hu; simp [cellsV] at hu; rcases hu with rfl | rfl | rfl <;> rfl
theorem infoV : (Tryz.prog.info? 26).map (fun i => (i.zero, i.size, i.bytes)) = some (some (.agg #[.int .u8 0, .int .i64 0, .string ByteArray.empty]), 3, 32) := by kernel_rfl
theorem zeroV : (Value.agg #[.int .u8 0, .int .i64 0, .string ByteArray.empty]).cells.size = 3 := rfl
abbrev OwnV (B : Nat) (w : World) (v : Value) (L : List V3) : Prop := OwnOf 26 cellsV 3 B w v L
theorem copyV_any (a : Option Addr) (len cap : Nat) (L : List V3) (hl : len * 32 ≤ 140737488355328) (w : World) (hL : IsV w a len L) :
    Calls Tryz.prog 54 #[.slice a len cap] w fun e w' => (∃ v, e = .returned v ∧ OwnV w.heap.size w' v L) ∧ Below w.heap.size w w' := by
  go_enter Tryz.func54, Tryz.ntmps54
  go_wp2_with (at_builtin; refine wpList_appOf rfl (.const (.slice none 0 0)) (.tmp 3) 22 rfl Tryz.underlying22 _ 32 infoV zeroV (by decide) (by decide) cellsV_len cellsV_one w.heap.size _ [] rfl (OwnOf.nil _ _ _ _ _) a len cap L rfl hL (by simp only [List.length_nil, Nat.zero_add]; omega) (Nat.le_refl _) ?_)
  intro v' w1 ho hb
  have HO := Lib.hid ho
  have HB := Lib.hid hb
  clear ho hb
  go_wp2_with fail
  go_ret
  exact ⟨⟨_, rfl, by simpa using HO.out⟩, HB.out⟩
set_option maxHeartbeats 1600000 in
theorem eqV_any (a a' : Option Addr) (n cap cap' : Nat) (l : List V3) (hl : n ≤ 1000000) (w : World) (h1 : IsV w a n l) (h2 : IsV w a' n l) :
    Calls Tryz.prog 32 #[.slice a n cap, .slice a' n cap'] w fun e w' => e = .returned (.bool true) ∧ Below w.heap.size w w' := by
  have H1 := Lib.hid h1
  have H2 := Lib.hid h2
  clear h1 h2
  go_enter Tryz.func32, Tryz.ntmps32
  go_wp2_with fail
  go_loopw [5] (fun i wr => ∃ k : Nat, k ≤ n ∧ i = .int .i64 k ∧ Below w.heap.size w wr) (fun i _ => n - (intOf i).toNat)
  case atStart => exact ⟨0, Nat.zero_le _, rfl, Below.refl _ _⟩
  case round =>
    obtain ⟨k, hk, rfl, hB⟩ := hrel
    have HB := Lib.hid hB
    clear hB
    by_cases hlt : k < n
    · have hkl : k < l.length := by rw [H1.out.1]; exact hlt
      obtain ⟨b, off, rfl, hbl, c1, c2, c3⟩ := isV_at (IsOf.later H1.out HB.out) hkl
      obtain ⟨b', off', rfl, hbl', d1, d2, d3⟩ := isV_at (IsOf.later H2.out HB.out) hkl
      generalize l[k] = r at *
      obtain ⟨x1, x2, x3⟩ := r
      dsimp only at *
      go_wp2_with fail
      go_quiet (fail)
      go_wp2_with fail
      go_roundw
      case rel => exact ⟨k + 1, by omega, by go_num, ⟨HB.out.os, HB.out.tape, HB.out.output, HB.out.size, HB.out.block⟩⟩
      case measure => simp [intOf]; omega
    · go_wp2_with fail
      go_ret
      exact ⟨rfl, HB.out⟩
/-- Writing one cell of an element of a list of the call's own. -/
theorem flat_set {α : Type} {c : α → List Value} {n : Nat} (hn : ∀ x, (c x).length = n) (x : α) (u : Value) (j : Nat) (hj : j < n) : ∀ (L : List α) (k : Nat) (hk : k < L.length), c x = (c L[k]).set j u → (L.flatMap c).set (k * n + j) u = (L.set k x).flatMap c
  | [], k, hk, _ => by simp at hk
  | y :: L, 0, hk, h => by
    rw [List.set_cons_zero, List.flatMap_cons, List.flatMap_cons, h, List.set_append_left _ _ (by rw [hn]; omega), Nat.zero_mul, Nat.zero_add]
    rfl
  | y :: L, k + 1, hk, h => by
    have e : (k + 1) * n + j = n + (k * n + j) := by rw [Nat.add_mul]; omega
    rw [List.set_cons_succ, List.flatMap_cons, List.flatMap_cons, e, List.set_append_right _ _ (by rw [hn]; omega), hn, Nat.add_sub_cancel_left, flat_set hn x u j hj L k (by simpa using hk) h]
theorem OwnOf.setAt {α : Type} {c : α → List Value} {n : Nat} {e : TypeId} (hn : ∀ x, (c x).length = n) {B : Nat} {w : World} {g m cp : Nat} {L : List α} (h : OwnOf e c n B w (.slice (some ⟨g, 0, none⟩) m cp) L) {k j : Nat} (hk : k < L.length) (hj : j < n) {x : α} {u : Value} (hx : c x = (c L[k]).set j u) :
    OwnOf e c n B (w.setCell ⟨g, k * n + j, none⟩ u) (.slice (some ⟨g, 0, none⟩) m cp) (L.set k x) := by
  unfold OwnOf at *
  obtain ⟨h1, h2⟩ := h
  rw [List.length_set, ← flat_set hn x u j hj L k hk hx]
  refine ⟨by rw [List.length_set]; exact h1, ?_⟩
  rcases h2 with ⟨hv, _⟩ | ⟨g', cap, cur, hv, hg, hh, hc, hcm, hsz, hx⟩
  · cases hv
  · have hv' := hv
    injection hv' with h3 h4 h5
    injection h3 with h3
    injection h3 with h3
    subst h3
    refine .inr ⟨g, cap, cur.setIfInBounds (k * n + j) u, hv, hg, ?_, hc, hcm, by simpa using hsz, ?_⟩
    · simp [World.setCell, Array.getElem?_modify, hh]
    · rw [Array.toList_setIfInBounds, List.take_set, hx]
theorem OwnOf.there2 {α : Type} {c : α → List Value} {n : Nat} {e : TypeId} {B : Nat} {w : World} {a : Option Addr} {m cp : Nat} {L : List α} (h : OwnOf e c n B w (.slice a m cp) L) (h0 : 0 < L.length) :
    ∃ g, a = some ⟨g, 0, none⟩ ∧ B ≤ g ∧ g < w.heap.size ∧ w.there g 0 (L.length * n) := by
  have h' := h
  rcases h.2 with ⟨_, h2⟩ | ⟨g, cap, cur, hv, hg, hh, hc, hcur, hsz, hx⟩
  · omega
  · injection hv with h1 h2 h3
    subst h1; subst h2
    refine ⟨g, rfl, hg, (Array.getElem?_eq_some_iff.1 hh).1, fun j hj => ?_⟩
    have := World.ownsRow.cellAt h' j hj
    rw [Nat.zero_add]
    exact ⟨by rw [this]; simp [h.1, hj], by simp [World.frozen?, hh]⟩
theorem mix_step {α : Type} (f : α → α) (K : List α) (k : Nat) (hk : k < K.length) : ((K.take k).map f ++ K.drop k).set k (f K[k]) = (K.take (k + 1)).map f ++ K.drop (k + 1) := by
  have hl : ((K.take k).map f).length = k := by rw [List.length_map, List.length_take]; omega
  rw [List.set_append_right _ _ (by omega), hl, Nat.sub_self, List.drop_eq_getElem_cons hk, List.set_cons_zero, List.take_succ_eq_append_getElem hk, List.map_append, List.append_assoc]
  rfl
theorem mix_at {α : Type} (f : α → α) (K : List α) (k : Nat) (hk : k < K.length) (h : k < ((K.take k).map f ++ K.drop k).length) : ((K.take k).map f ++ K.drop k)[k] = K[k] := by
  have hl : ((K.take k).map f).length = k := by rw [List.length_map, List.length_take]; omega
  rw [List.getElem_append_right (by omega), List.getElem_drop]
  congr 1
  omega
def cutB (s : ByteArray) : ByteArray := s.extract 0 (min (s.size : Int) 300).toNat
def cutV (v : V3) : V3 := (v.1, v.2.1, cutB v.2.2)
/-- What louvrelaw13.Few makes of a list. -/
def fewL (L : List V3) : List V3 := (L.take 20).map cutV
theorem fewL_len (L : List V3) : (fewL L).length = min L.length 20 := by unfold fewL; rw [List.length_map, List.length_take, Nat.min_comm]
theorem cutB_sz (s : ByteArray) : (cutB s).size ≤ 300 := by
  unfold cutB
  rw [ByteArray.size_extract]
  omega
theorem fewL_sz {L : List V3} {v : V3} (h : v ∈ fewL L) : v.2.2.size ≤ 300 := by
  unfold fewL at h
  obtain ⟨u, _, rfl⟩ := List.mem_map.1 h
  exact cutB_sz _
theorem fewL_in {L : List V3} (hL : ∀ v ∈ L, InI v.2.1) {v : V3} (h : v ∈ fewL L) : InI v.2.1 := by
  unfold fewL at h
  obtain ⟨u, hu, rfl⟩ := List.mem_map.1 h
  exact hL u (List.mem_of_mem_take hu)
theorem IsOf.head {α : Type} {c : α → List Value} {n : Nat} {w : World} {a : Option Addr} {m : Nat} {L : List α} (h : IsOf c n w a m L) (k : Nat) : IsOf c n w a (min m k) (L.take k) := by
  refine ⟨by rw [List.length_take, h.1, Nat.min_comm], fun h0 => ?_⟩
  obtain ⟨b, off, ha, hr⟩ := h.2 (by omega)
  refine ⟨b, off, ha, hr.1, fun i hi j u hu => ?_⟩
  rw [List.length_take] at hi
  rw [List.getElem_take] at hu
  exact hr.2 i (by omega) j u hu
set_option maxHeartbeats 3200000 in
theorem few_any (a : Option Addr) (n cap : Nat) (L : List V3) (hc : n ≤ cap) (w : World) (hL : IsV w a n L) (hv : ∀ v ∈ L, v.2.2.size ≤ maxLen) :
    Calls Tryz.prog 23 #[.slice a n cap] w fun e w' => (∃ v, e = .returned v ∧ OwnV w.heap.size w' v (fewL L)) ∧ Below w.heap.size w w' := by
  have HL := Lib.hid hL
  have HH := Lib.hid (IsOf.head hL 20)
  have HV : Hid (∀ v ∈ L.take 20, v.2.2.size ≤ maxLen) := fun v h => hv v (List.mem_of_mem_take h)
  clear hL hv
  go_enter Tryz.func23, Tryz.ntmps23
  go_wp2_with fail
  obtain ⟨m, hm⟩ : ∃ m, (min (n : Int) 20).toNat = m := ⟨_, rfl⟩
  rw [hm]
  have hm2 : min n 20 = m := by omega
  rw [hm2] at HH
  have hm3 : m ≤ 20 := by omega
  refine (copyV_any a m cap (L.take 20) (by omega) _ HH.out).mono ?_
  rintro e w1 ⟨⟨v, rfl, hO⟩, hB⟩
  have HKL := Lib.hid HH.out.1
  have HR : Hid (fewL L = (L.take 20).map cutV) := rfl
  generalize L.take 20 = K at *
  clear HL HH hm hm2
  have HB1 := Lib.hid hB
  have HO1 := Lib.hid (show OwnV w.heap.size w1 v ((K.take 0).map cutV ++ K.drop 0) from hO)
  obtain ⟨va, vc, hve, _⟩ := hO.isOf cellsV_len
  rw [HKL.out] at hve
  subst hve
  clear hO hB
  go_wp2_with fail
  go_loopw [4] (fun i wr => ∃ k : Nat, k ≤ m ∧ i = .int .i64 (k : Int) ∧ Hid (Below w.heap.size w wr) ∧ Hid (OwnV w.heap.size wr (.slice va m vc) ((K.take k).map cutV ++ K.drop k))) (fun i _ => m - (intOf i).toNat)
  case atStart => exact ⟨0, Nat.zero_le _, rfl, HB1.out, HO1.out⟩
  case round =>
    obtain ⟨k, hk, rfl, HB, HO⟩ := hrel
    clear HB1 HO1
    by_cases hlt : k < m
    · have hkl : k < K.length := by rw [HKL.out]; exact hlt
      have hml : ((K.take k).map cutV ++ K.drop k).length = m := by simp; have := HKL.out; omega
      obtain ⟨g, rfl, hg, hgl, hth⟩ := OwnOf.there2 HO.out (by rw [hml]; omega)
      obtain ⟨b, off, hb, hbl, c1, c2, c3⟩ := isV_at (k := k) (by obtain ⟨a', c', he, h⟩ := HO.out.isOf cellsV_len; cases he; exact h) (by rw [hml]; exact hlt)
      cases hb
      rw [mix_at cutV K k hkl] at c3
      rw [Nat.zero_add] at c3
      have hfz := (hth (k * 3 + 2) (by rw [hml]; omega)).2
      rw [Nat.zero_add] at hfz
      have HN := Lib.hid (OwnOf.setAt cellsV_len HO.out (k := k) (j := 2) (by rw [hml]; exact hlt) (by decide) (x := cutV K[k]) (u := .string (cutB K[k].2.2)) (by rw [mix_at cutV K k hkl]; rfl))
      rw [mix_step cutV K k hkl] at HN
      have HBN := Lib.hid (HB.out.setCell (p := ⟨g, k * 3 + 2, none⟩) hg (.string (cutB K[k].2.2)))
      have hvz := HV.out K[k] (List.getElem_mem hkl)
      have HC : Hid (cutB K[k].2.2 = K[k].2.2.extract 0 (min (K[k].2.2.size : Int) 300).toNat) := rfl
      clear c1 c2 hth
      generalize K[k].2.2 = tx at *
      have hm0 : 0 ≤ min (tx.size : Int) 300 := by omega
      have hm1 : min (tx.size : Int) 300 ≤ (tx.size : Int) := by omega
      rw [HC.out] at HN HBN
      go_wp2_with fail
      go_region
      go_wp2_with fail
      exact ⟨⟨k + 1, by omega, by go_num, HBN.out.drew, OwnOf.drew HN.out⟩, by simp [intOf]; omega⟩
    · go_wp2_with fail
      go_ret
      refine ⟨⟨_, rfl, ?_⟩, HB.out⟩
      have h := HO.out
      rw [List.take_of_length_le (by rw [HKL.out]; omega), List.drop_of_length_le (by rw [HKL.out]; omega), List.append_nil] at h
      rw [HR.out]
      exact h
end Go.Proofs.YtdhahiodnmmkeaaGreatDoor.Va
/- The values of the examples: some list of values whose texts are short. -/
namespace Go.Proofs.YtdhahiodnmmkeaaGreatDoor.Va
open Go Go.RowKit GM
set_option linter.unusedVariables false
set_option linter.unusedSimpArgs false
theorem ownV_new {B : Nat} (w : World) (hB : B ≤ w.heap.size) (cs : Array Value) (M : List V3) (hM : M.length ≤ 1000) (h : cs = (M.flatMap cellsV).toArray) : OwnV B (w.alloc (.cells cs 26)) (.slice (some ⟨w.heap.size, 0, none⟩) M.length M.length) M := by
  subst h
  have hl := flat_len cellsV_len M
  refine ⟨hl, .inr ⟨w.heap.size, M.length, _, rfl, hB, World.alloc_heap_new w _, Nat.le_refl _, by unfold maxLen; omega, by simpa using hl, ?_⟩⟩
  show (M.flatMap cellsV).take (M.length * 3) = M.flatMap cellsV
  rw [← hl, List.take_length]
theorem wpList_appV1 {ops : Array Oper} {rest : List Oper} {o : Oper} {a : Act} {w : World} {Q : Exit → Act → World → Prop} (hgd : o.guard = none) (s x : Operand)
    (ho : o.op = .call { callee := .builtin .append, args := #[s, x], argTypes := #[22, 22] }) (B : Nat) (v : Value) (L : List V3) (hs : a.eval s = v) (hown : OwnV B w v L) (g : Nat) (u : V3) (hx : a.eval x = .slice (some ⟨g, 0, none⟩) 1 1)
    (hu : IsV w (some ⟨g, 0, none⟩) 1 [u]) (hl : L.length ≤ 1000) (hB : B ≤ w.heap.size) (h : ∀ v' w', OwnV B w' v' (L ++ [u]) → Below B w w' → wpList Tryz.prog ops Q rest (a.put o.dst v') w') : wpList Tryz.prog ops Q (o :: rest) a w :=
  wpList_appOf hgd s x 22 ho Tryz.underlying22 _ 32 infoV zeroV (by decide) (by decide) cellsV_len cellsV_one B v L hs hown _ 1 1 [u] hx hu (by omega) hB h
/-- A value whose text is short. -/
def okV (v : V3) : Prop := v.2.2.size ≤ 300 ∧ InI v.2.1
theorem okV_add {L : List V3} (h : ∀ u ∈ L, okV u) {k : Nat} {n : Int} (hn : InI n) : ∀ u ∈ L ++ [(k, n, (⟨#[]⟩ : ByteArray))], okV u := fun u hu => by
  rcases List.mem_append.1 hu with hu | hu
  · exact h u hu
  · rw [List.mem_singleton.1 hu]; exact ⟨show (⟨#[]⟩ : ByteArray).size ≤ 300 by decide, hn⟩
theorem idx17 (j : Nat) (hj : j < 17) : ∃ x : Int, (∀ w, (Instr.index 42 (.agg #[.int .i64 0, .int .i64 1, .int .i64 (-1), .int .i64 4999, .int .i64 5000, .int .i64 10000, .int .i64 (-10000), .int .i64 15000, .int .i64 (-15000), .int .i64 20000, .int .i64 25000, .int .i64 30000, .int .i64 123456789, .int .i64 4611686018427387904, .int .i64 (-4611686018427387904), .int .i64 9223372036854775807, .int .i64 (-9223372036854775807)]) (.int .i64 (j : Int))).run Tryz.prog w = .ok (.int .i64 x) w) ∧ InI x := by
  obtain rfl | rfl | rfl | rfl | rfl | rfl | rfl | rfl | rfl | rfl | rfl | rfl | rfl | rfl | rfl | rfl | rfl := (by omega : j = 0 ∨ j = 1 ∨ j = 2 ∨ j = 3 ∨ j = 4 ∨ j = 5 ∨ j = 6 ∨ j = 7 ∨ j = 8 ∨ j = 9 ∨ j = 10 ∨ j = 11 ∨ j = 12 ∨ j = 13 ∨ j = 14 ∨ j = 15 ∨ j = 16)
  · exact ⟨0, fun w => by kernel_rfl, by unfold InI; omega⟩
  · exact ⟨1, fun w => by kernel_rfl, by unfold InI; omega⟩
  · exact ⟨(-1), fun w => by kernel_rfl, by unfold InI; omega⟩
  · exact ⟨4999, fun w => by kernel_rfl, by unfold InI; omega⟩
  · exact ⟨5000, fun w => by kernel_rfl, by unfold InI; omega⟩
  · exact ⟨10000, fun w => by kernel_rfl, by unfold InI; omega⟩
  · exact ⟨(-10000), fun w => by kernel_rfl, by unfold InI; omega⟩
  · exact ⟨15000, fun w => by kernel_rfl, by unfold InI; omega⟩
  · exact ⟨(-15000), fun w => by kernel_rfl, by unfold InI; omega⟩
  · exact ⟨20000, fun w => by kernel_rfl, by unfold InI; omega⟩
  · exact ⟨25000, fun w => by kernel_rfl, by unfold InI; omega⟩
  · exact ⟨30000, fun w => by kernel_rfl, by unfold InI; omega⟩
  · exact ⟨123456789, fun w => by kernel_rfl, by unfold InI; omega⟩
  · exact ⟨4611686018427387904, fun w => by kernel_rfl, by unfold InI; omega⟩
  · exact ⟨(-4611686018427387904), fun w => by kernel_rfl, by unfold InI; omega⟩
  · exact ⟨9223372036854775807, fun w => by kernel_rfl, by unfold InI; omega⟩
  · exact ⟨(-9223372036854775807), fun w => by kernel_rfl, by unfold InI; omega⟩
set_option maxRecDepth 100000 in
set_option maxHeartbeats 12800000 in
theorem lvals_any (w : World) : Calls Tryz.prog 8 #[] w fun e w' => (∃ v L, e = .returned v ∧ OwnV w.heap.size w' v L ∧ L.length ≤ 100 ∧ ∀ u ∈ L, okV u) ∧ Below w.heap.size w w' := by
  have HO := Lib.hid (ownV_new w (Nat.le_refl _) #[.int .u8 0, .int .i64 0, .string ⟨#[]⟩, .int .u8 2, .int .i64 0, .string ⟨#[]⟩, .int .u8 2, .int .i64 1, .string ⟨#[]⟩, .int .u8 3, .int .i64 0, .string ⟨#[]⟩, .int .u8 3, .int .i64 0, .string ⟨#[51]⟩, .int .u8 3, .int .i64 0, .string ⟨#[32, 45, 50, 46, 53, 32]⟩, .int .u8 3, .int .i64 0, .string ⟨#[120]⟩, .int .u8 3, .int .i64 0, .string ⟨#[84, 82, 85, 69]⟩, .int .u8 2, .int .i64 2, .string ⟨#[]⟩, .int .u8 5, .int .i64 0, .string ⟨#[]⟩, .int .u8 4, .int .i64 7, .string ⟨#[]⟩, .int .u8 1, .int .i64 (-9223372036854775808), .string ⟨#[]⟩] [(0, 0, ⟨#[]⟩), (2, 0, ⟨#[]⟩), (2, 1, ⟨#[]⟩), (3, 0, ⟨#[]⟩), (3, 0, ⟨#[51]⟩), (3, 0, ⟨#[32, 45, 50, 46, 53, 32]⟩), (3, 0, ⟨#[120]⟩), (3, 0, ⟨#[84, 82, 85, 69]⟩), (2, 2, ⟨#[]⟩), (5, 0, ⟨#[]⟩), (4, 7, ⟨#[]⟩), (1, (-9223372036854775808), ⟨#[]⟩)] (by decide) rfl)
  have HK : Hid (∀ u ∈ ([(0, 0, ⟨#[]⟩), (2, 0, ⟨#[]⟩), (2, 1, ⟨#[]⟩), (3, 0, ⟨#[]⟩), (3, 0, ⟨#[51]⟩), (3, 0, ⟨#[32, 45, 50, 46, 53, 32]⟩), (3, 0, ⟨#[120]⟩), (3, 0, ⟨#[84, 82, 85, 69]⟩), (2, 2, ⟨#[]⟩), (5, 0, ⟨#[]⟩), (4, 7, ⟨#[]⟩), (1, (-9223372036854775808), ⟨#[]⟩)] : List V3), okV u) := by
    intro u hu
    simp only [List.mem_cons, List.not_mem_nil, or_false] at hu
    rcases hu with rfl | rfl | rfl | rfl | rfl | rfl | rfl | rfl | rfl | rfl | rfl | rfl <;> exact ⟨by decide, by unfold InI; decide⟩
  have HB := Lib.hid (valloc w (.cells #[.int .u8 0, .int .i64 0, .string ⟨#[]⟩, .int .u8 2, .int .i64 0, .string ⟨#[]⟩, .int .u8 2, .int .i64 1, .string ⟨#[]⟩, .int .u8 3, .int .i64 0, .string ⟨#[]⟩, .int .u8 3, .int .i64 0, .string ⟨#[51]⟩, .int .u8 3, .int .i64 0, .string ⟨#[32, 45, 50, 46, 53, 32]⟩, .int .u8 3, .int .i64 0, .string ⟨#[120]⟩, .int .u8 3, .int .i64 0, .string ⟨#[84, 82, 85, 69]⟩, .int .u8 2, .int .i64 2, .string ⟨#[]⟩, .int .u8 5, .int .i64 0, .string ⟨#[]⟩, .int .u8 4, .int .i64 7, .string ⟨#[]⟩, .int .u8 1, .int .i64 (-9223372036854775808), .string ⟨#[]⟩] 26))
  obtain ⟨M, hM⟩ : ∃ M : List V3, M = [(0, 0, ⟨#[]⟩), (2, 0, ⟨#[]⟩), (2, 1, ⟨#[]⟩), (3, 0, ⟨#[]⟩), (3, 0, ⟨#[51]⟩), (3, 0, ⟨#[32, 45, 50, 46, 53, 32]⟩), (3, 0, ⟨#[120]⟩), (3, 0, ⟨#[84, 82, 85, 69]⟩), (2, 2, ⟨#[]⟩), (5, 0, ⟨#[]⟩), (4, 7, ⟨#[]⟩), (1, (-9223372036854775808), ⟨#[]⟩)] := ⟨_, rfl⟩
  have hMl : M.length = 12 := by rw [hM]; rfl
  rw [← hM] at HO HK
  rw [hMl] at HO
  have HML := Lib.hid hMl
  clear hMl
  go_enter Tryz.func8, Tryz.ntmps8
  go_wp2_with fail
  clear hM
  generalize w.alloc (.cells #[.int .u8 0, .int .i64 0, .string ⟨#[]⟩, .int .u8 2, .int .i64 0, .string ⟨#[]⟩, .int .u8 2, .int .i64 1, .string ⟨#[]⟩, .int .u8 3, .int .i64 0, .string ⟨#[]⟩, .int .u8 3, .int .i64 0, .string ⟨#[51]⟩, .int .u8 3, .int .i64 0, .string ⟨#[32, 45, 50, 46, 53, 32]⟩, .int .u8 3, .int .i64 0, .string ⟨#[120]⟩, .int .u8 3, .int .i64 0, .string ⟨#[84, 82, 85, 69]⟩, .int .u8 2, .int .i64 2, .string ⟨#[]⟩, .int .u8 5, .int .i64 0, .string ⟨#[]⟩, .int .u8 4, .int .i64 7, .string ⟨#[]⟩, .int .u8 1, .int .i64 (-9223372036854775808), .string ⟨#[]⟩] 26) = wa at *
  go_loopw [1, 2] (fun u i wr => ∃ (k : Nat) (L : List V3), k ≤ 6 ∧ i = .int .i64 ((k : Int) + 1) ∧ Hid (L.length = 12 + k) ∧ Hid (∀ u ∈ L, okV u) ∧ Hid (OwnV w.heap.size wr u L) ∧ Hid (Below w.heap.size w wr)) (fun _ i _ => 8 - (intOf i).toNat)
  case atStart => exact ⟨0, M, by omega, rfl, HML.out, HK.out, HO.out, HB.out⟩
  case round =>
    clear HML HK HO HB
    obtain ⟨k, L, hk, rfl, HL, HK, HO, HB⟩ := hrel
    obtain ⟨ua, uc, rfl, _⟩ := OwnOf.isOf cellsV_len HO.out
    have hws : w.heap.size ≤ wr.heap.size := HB.out.size
    by_cases hlt : k < 6
    · have d1 : decide ((k : Int) + 1 ≤ 6) = true := by simp; omega
      have hll : L.length ≤ 100 := by have := HL.out; omega
      go_wp2_with (at_builtin; go_loud (refine wpList_appV1 rfl (.tmp 22) (.tmp 25) rfl w.heap.size _ L rfl (OwnOf.alloc HO.out _) wr.heap.size (4, (k : Int) + 1, ⟨#[]⟩) rfl (isOf_new _ _ _ _ rfl) (by omega) (by rw [World.size_alloc]; omega) ?_; intro v5 w5 ho5 hg5; have HB5 := Lib.hid ((HB.out.alloc HB.out.size _).trans hg5); have HO5 := Lib.hid ho5; clear hg5 ho5))
      exact ⟨⟨k + 1, L ++ [(4, (k : Int) + 1, (⟨#[]⟩ : ByteArray))], by omega, by go_num, by have := HL.out; unfold Hid; simp; omega, okV_add HK.out (by unfold InI; omega), HO5.out, HB5.out⟩, by simp [intOf]; omega⟩
    · have d1 : decide ((k : Int) + 1 ≤ 6) = false := by simp; omega
      have HL2 : Hid (L.length = 18 + 0) := by have := HL.out; unfold Hid; omega
      go_wp2_with fail
      go_loopw [1, 28] (fun u i wr => ∃ (k : Nat) (L : List V3), k ≤ 17 ∧ i = .int .i64 (k : Int) ∧ Hid (L.length = 18 + k) ∧ Hid (∀ u ∈ L, okV u) ∧ Hid (OwnV w.heap.size wr u L) ∧ Hid (Below w.heap.size w wr)) (fun _ i _ => 17 - (intOf i).toNat)
      case atStart => exact ⟨0, L, by omega, rfl, HL2.out, HK.out, HO.out, HB.out⟩
      case round =>
        clear HL HL2 HK HO HB hws hlt d1
        obtain ⟨j, L, hj, rfl, HL, HK, HO, HB⟩ := hrel
        obtain ⟨ua, uc, rfl, _⟩ := OwnOf.isOf cellsV_len HO.out
        have hws : w.heap.size ≤ wr.heap.size := HB.out.size
        by_cases hlt2 : j < 17
        · have hll : L.length ≤ 100 := by have := HL.out; omega
          obtain ⟨x, hx, hxi⟩ := idx17 j hlt2
          have HXI := Lib.hid hxi
          clear hxi
          go_wp2_with (at_builtin; go_loud (refine wpList_appV1 rfl (.tmp 31) (.tmp 34) rfl w.heap.size _ L rfl (OwnOf.alloc HO.out _) wr.heap.size (1, x, ⟨#[]⟩) rfl (isOf_new _ _ _ _ rfl) (by omega) (by rw [World.size_alloc]; omega) ?_; intro v5 w5 ho5 hg5; have HB5 := Lib.hid ((HB.out.alloc HB.out.size _).trans hg5); have HO5 := Lib.hid ho5; clear hg5 ho5))
          exact ⟨⟨j + 1, L ++ [(1, x, (⟨#[]⟩ : ByteArray))], by omega, by go_num, by have := HL.out; unfold Hid; simp; omega, okV_add HK.out HXI.out, HO5.out, HB5.out⟩, by simp [intOf]; omega⟩
        · go_wp2_with fail
          go_ret
          exact ⟨⟨_, L, rfl, HO.out, by have := HL.out; omega, HK.out⟩, HB.out⟩
end Go.Proofs.YtdhahiodnmmkeaaGreatDoor.Va
/- Lists of blank values that make lays. -/
namespace Go.Proofs.YtdhahiodnmmkeaaGreatDoor.Va
open Go Go.RowKit GM
set_option linter.unusedVariables false
set_option linter.unusedSimpArgs false
def bl3 : V3 := (0, 0, ⟨#[]⟩)
theorem made_bl (n : Nat) : madeCells #[.int .u8 0, .int .i64 0, .string ⟨#[]⟩] (n * 3) = ((List.replicate n bl3).flatMap cellsV).toArray := by
  apply Array.ext_getElem?
  intro i
  by_cases hi : i < n * 3
  · have hr : i / 3 < (List.replicate n bl3).length := by rw [List.length_replicate]; omega
    have h := flat_at cellsV_len (List.replicate n bl3) (i / 3) hr (i % 3) (by omega)
    rw [show i / 3 * 3 + i % 3 = i by omega, List.getElem_replicate] at h
    rw [show (List.flatMap cellsV (List.replicate n bl3)).toArray[i]? = (List.flatMap cellsV (List.replicate n bl3))[i]? from List.getElem?_toArray .., h]
    obtain h3 | h3 | h3 := (by omega : i % 3 = 0 ∨ i % 3 = 1 ∨ i % 3 = 2)
    all_goals
      rw [h3]
      simp [madeCells, hi, h3, bl3, cellsV]
  · have hl := flat_len cellsV_len (List.replicate n bl3)
    rw [List.length_replicate] at hl
    rw [Array.getElem?_eq_none (by rw [size_madeCells]; omega), show (List.flatMap cellsV (List.replicate n bl3)).toArray[i]? = (List.flatMap cellsV (List.replicate n bl3))[i]? from List.getElem?_toArray .., List.getElem?_eq_none (by omega)]
theorem make_V (n : Nat) (hn : n ≤ 1000) (w : World) : (Instr.makeSlice 22 (.int .i64 (n : Int)) (.int .i64 (n : Int))).run Tryz.prog w = .ok (.slice (some ⟨w.heap.size, 0, none⟩) n n) (w.alloc (.cells ((List.replicate n bl3).flatMap cellsV).toArray 26)) := by
  obtain ⟨i0, hi, hzz⟩ := Option.map_eq_some_iff.1 infoV
  simp only [Prod.mk.injEq] at hzz
  obtain ⟨hz, hs, hb⟩ := hzz
  have hr := run_make (P := Tryz.prog) w _ _ i0 _ Tryz.underlying22 hi hz .i64 .i64 n n (by omega) (Int.le_refl _) (by rw [hb]; omega) (by omega)
  simp only [Int.toNat_natCast, hs] at hr
  have hm : madeCells (Value.agg #[.int .u8 0, .int .i64 0, .string ByteArray.empty]).cells (n * 3) = ((List.replicate n bl3).flatMap cellsV).toArray := made_bl n
  rw [hm] at hr
  exact hr
theorem isV_new9 (w : World) (cs : Array Value) (t : TypeId) (M : List V3) (h : cs = (M.flatMap cellsV).toArray) : IsV (w.alloc (.cells cs t)) (some ⟨w.heap.size, 0, none⟩) M.length M := by
  subst h
  refine ⟨rfl, fun _ => ⟨w.heap.size, 0, rfl, by simp, fun k hk j v hv => ?_⟩⟩
  have hj : j < 3 := by rw [← cellsV_len M[k]]; exact (List.getElem?_eq_some_iff.1 hv).1
  have := flat_at cellsV_len M k hk j hj
  rw [hv] at this
  simp [this]
theorem tail9 {w : World} {b off n : Nat} {L : List V3} (h : IsV w (some ⟨b, off, none⟩) n L) (k : Nat) (hk : k ≤ n) : IsV w (some ⟨b, off + k * 3, none⟩) (n - k) (L.drop k) := by
  refine ⟨by rw [List.length_drop, h.1], fun h0 => ?_⟩
  obtain ⟨b', off', e, hr⟩ := h.2 (by omega)
  cases e
  refine ⟨b, off + k * 3, rfl, hr.1, fun i hi j u hu => ?_⟩
  rw [List.length_drop] at hi
  rw [List.getElem_drop] at hu
  have := hr.2 (k + i) (by omega) j u hu
  rw [show off + k * 3 + i * 3 + j = off + (k + i) * 3 + j by rw [Nat.add_mul]; omega]
  exact this
theorem cap9 {B : Nat} {w : World} {a : Option Addr} {m cp : Nat} {M : List V3} (h : OwnV B w (.slice a m cp) M) : m ≤ cp := by
  rcases h.2 with ⟨h1, _⟩ | ⟨g, cap, cur, hv, _, _, hc, _⟩
  · injection h1 with h1 h2 h3; omega
  · injection hv with h1 h2 h3; omega
/-- A slice that reads as a list. -/
def SlW (L : List V3) : Fact := fun v X => ∃ a cap, v = .slice a L.length cap ∧ IsV X a L.length L ∧ L.length ≤ cap
theorem slW_stable (L : List V3) : Stable (SlW L) := fun _ _ _ hB ⟨a, c, e, h, hc⟩ => ⟨a, c, e, IsOf.later h hB, hc⟩
theorem ok_nil : ∀ u ∈ ([] : List V3), okV u := fun u hu => by simp at hu
theorem ok_cons {v : V3} {L : List V3} (h : okV v) (hL : ∀ u ∈ L, okV u) : ∀ u ∈ v :: L, okV u := fun u hu => by
  rcases List.mem_cons.1 hu with rfl | hu
  · exact h
  · exact hL u hu
theorem ok_rep (n : Nat) : ∀ u ∈ List.replicate n bl3, okV u := fun u hu => by
  rw [(List.mem_replicate.1 hu).2]
  exact ⟨by decide, by unfold InI bl3; decide⟩
theorem okV_wide {L : List V3} (h : ∀ u ∈ L, okV u) : ∀ v ∈ L, v.2.2.size ≤ maxLen ∧ InI v.2.1 := fun v hv => ⟨Nat.le_trans (h v hv).1 (by unfold maxLen; decide), (h v hv).2⟩
end Go.Proofs.YtdhahiodnmmkeaaGreatDoor.Va
