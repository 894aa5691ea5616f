/- The reference's helpers for lists of values: a copy, cut short; equal lists. -/
import Derived.Test.YtfjefanhkbcfgaaGreatDoorFuA
import Derived.Deep.RegionLaw
import Derived.Lib.MinMax
import Derived.Deep.MidRow
namespace Go.Proofs.YtfjefanhkbcfgaaGreatDoor.Va
open Go Go.RowKit GM
set_option linter.unusedVariables false
set_option linter.unusedSimpArgs false
theorem cellsV_one (v : V3) : ∀ u ∈ cellsV v, u.oneCell' = true := by
  intro u hu; simp [cellsV] at hu; rcases hu with rfl | rfl | rfl <;> rfl
theorem infoV : (Tryz.prog.info? 25).map (fun i => (i.zero, i.size, i.bytes)) = some (some (.agg #[.int .u8 0, .int .i64 0, .string ByteArray.empty]), 3, 32) := by kernel_rfl
theorem zeroV : (Value.agg #[.int .u8 0, .int .i64 0, .string ByteArray.empty]).cells.size = 3 := rfl
abbrev OwnV (B : Nat) (w : World) (v : Value) (L : List V3) : Prop := OwnOf 25 cellsV 3 B w v L
theorem copyV_any (a : Option Addr) (len cap : Nat) (L : List V3) (hl : len * 32 ≤ 140737488355328) (w : World) (hL : IsV w a len L) :
    Calls Tryz.prog 30 #[.slice a len cap] w fun e w' => (∃ v, e = .returned v ∧ OwnV w.heap.size w' v L) ∧ Below w.heap.size w w' := by
  go_enter Tryz.func30, Tryz.ntmps30
  go_wp2_with (at_builtin; refine wpList_appOf rfl (.const (.slice none 0 0)) (.tmp 3) 22 rfl Tryz.underlying22 _ 32 infoV zeroV (by decide) (by decide) cellsV_len cellsV_one w.heap.size _ [] rfl (OwnOf.nil _ _ _ _ _) a len cap L rfl hL (by simp only [List.length_nil, Nat.zero_add]; omega) (Nat.le_refl _) ?_)
  intro v' w1 ho hb
  have HO := Lib.hid ho
  have HB := Lib.hid hb
  clear ho hb
  go_wp2_with fail
  go_ret
  exact ⟨⟨_, rfl, by simpa using HO.out⟩, HB.out⟩
set_option maxHeartbeats 1600000 in
theorem eqV_any (a a' : Option Addr) (n cap cap' : Nat) (l : List V3) (hl : n ≤ 1000000) (w : World) (h1 : IsV w a n l) (h2 : IsV w a' n l) :
    Calls Tryz.prog 14 #[.slice a n cap, .slice a' n cap'] w fun e w' => e = .returned (.bool true) ∧ Below w.heap.size w w' := by
  have H1 := Lib.hid h1
  have H2 := Lib.hid h2
  clear h1 h2
  go_enter Tryz.func14, Tryz.ntmps14
  go_wp2_with fail
  go_loopw [5] (fun i wr => ∃ k : Nat, k ≤ n ∧ i = .int .i64 k ∧ Below w.heap.size w wr) (fun i _ => n - (intOf i).toNat)
  case atStart => exact ⟨0, Nat.zero_le _, rfl, Below.refl _ _⟩
  case round =>
    obtain ⟨k, hk, rfl, hB⟩ := hrel
    have HB := Lib.hid hB
    clear hB
    by_cases hlt : k < n
    · have hkl : k < l.length := by rw [H1.out.1]; exact hlt
      obtain ⟨b, off, rfl, hbl, c1, c2, c3⟩ := isV_at (IsOf.later H1.out HB.out) hkl
      obtain ⟨b', off', rfl, hbl', d1, d2, d3⟩ := isV_at (IsOf.later H2.out HB.out) hkl
      generalize l[k] = r at *
      obtain ⟨x1, x2, x3⟩ := r
      dsimp only at *
      go_wp2_with fail
      go_quiet (fail)
      go_wp2_with fail
      go_roundw
      case rel => exact ⟨k + 1, by omega, by go_num, ⟨HB.out.os, HB.out.tape, HB.out.output, HB.out.size, HB.out.block⟩⟩
      case measure => simp [intOf]; omega
    · go_wp2_with fail
      go_ret
      exact ⟨rfl, HB.out⟩
/-- Writing one cell of an element of a list of the call's own. -/
theorem flat_set {α : Type} {c : α → List Value} {n : Nat} (hn : ∀ x, (c x).length = n) (x : α) (u : Value) (j : Nat) (hj : j < n) : ∀ (L : List α) (k : Nat) (hk : k < L.length), c x = (c L[k]).set j u → (L.flatMap c).set (k * n + j) u = (L.set k x).flatMap c
  | [], k, hk, _ => by simp at hk
  | y :: L, 0, hk, h => by
    rw [List.set_cons_zero, List.flatMap_cons, List.flatMap_cons, h, List.set_append_left _ _ (by rw [hn]; omega), Nat.zero_mul, Nat.zero_add]
    rfl
  | y :: L, k + 1, hk, h => by
    have e : (k + 1) * n + j = n + (k * n + j) := by rw [Nat.add_mul]; omega
    rw [List.set_cons_succ, List.flatMap_cons, List.flatMap_cons, e, List.set_append_right _ _ (by rw [hn]; omega), hn, Nat.add_sub_cancel_left, flat_set hn x u j hj L k (by simpa using hk) h]
theorem OwnOf.setAt {α : Type} {c : α → List Value} {n : Nat} {e : TypeId} (hn : ∀ x, (c x).length = n) {B : Nat} {w : World} {g m cp : Nat} {L : List α} (h : OwnOf e c n B w (.slice (some ⟨g, 0, none⟩) m cp) L) {k j : Nat} (hk : k < L.length) (hj : j < n) {x : α} {u : Value} (hx : c x = (c L[k]).set j u) :
    OwnOf e c n B (w.setCell ⟨g, k * n + j, none⟩ u) (.slice (some ⟨g, 0, none⟩) m cp) (L.set k x) := by
  unfold OwnOf at *
  obtain ⟨h1, h2⟩ := h
  rw [List.length_set, ← flat_set hn x u j hj L k hk hx]
  refine ⟨by rw [List.length_set]; exact h1, ?_⟩
  rcases h2 with ⟨hv, _⟩ | ⟨g', cap, cur, hv, hg, hh, hc, hcm, hsz, hx⟩
  · cases hv
  · have hv' := hv
    injection hv' with h3 h4 h5
    injection h3 with h3
    injection h3 with h3
    subst h3
    refine .inr ⟨g, cap, cur.setIfInBounds (k * n + j) u, hv, hg, ?_, hc, hcm, by simpa using hsz, ?_⟩
    · simp [World.setCell, Array.getElem?_modify, hh]
    · rw [Array.toList_setIfInBounds, List.take_set, hx]
theorem OwnOf.there2 {α : Type} {c : α → List Value} {n : Nat} {e : TypeId} {B : Nat} {w : World} {a : Option Addr} {m cp : Nat} {L : List α} (h : OwnOf e c n B w (.slice a m cp) L) (h0 : 0 < L.length) :
    ∃ g, a = some ⟨g, 0, none⟩ ∧ B ≤ g ∧ g < w.heap.size ∧ w.there g 0 (L.length * n) := by
  have h' := h
  rcases h.2 with ⟨_, h2⟩ | ⟨g, cap, cur, hv, hg, hh, hc, hcur, hsz, hx⟩
  · omega
  · injection hv with h1 h2 h3
    subst h1; subst h2
    refine ⟨g, rfl, hg, (Array.getElem?_eq_some_iff.1 hh).1, fun j hj => ?_⟩
    have := World.ownsRow.cellAt h' j hj
    rw [Nat.zero_add]
    exact ⟨by rw [this]; simp [h.1, hj], by simp [World.frozen?, hh]⟩
theorem mix_step {α : Type} (f : α → α) (K : List α) (k : Nat) (hk : k < K.length) : ((K.take k).map f ++ K.drop k).set k (f K[k]) = (K.take (k + 1)).map f ++ K.drop (k + 1) := by
  have hl : ((K.take k).map f).length = k := by rw [List.length_map, List.length_take]; omega
  rw [List.set_append_right _ _ (by omega), hl, Nat.sub_self, List.drop_eq_getElem_cons hk, List.set_cons_zero, List.take_succ_eq_append_getElem hk, List.map_append, List.append_assoc]
  rfl
theorem mix_at {α : Type} (f : α → α) (K : List α) (k : Nat) (hk : k < K.length) (h : k < ((K.take k).map f ++ K.drop k).length) : ((K.take k).map f ++ K.drop k)[k] = K[k] := by
  have hl : ((K.take k).map f).length = k := by rw [List.length_map, List.length_take]; omega
  rw [List.getElem_append_right (by omega), List.getElem_drop]
  congr 1
  omega
def cutB (s : ByteArray) : ByteArray := s.extract 0 (min (s.size : Int) 300).toNat
def cutV (v : V3) : V3 := (v.1, v.2.1, cutB v.2.2)
/-- What louvrelaw13.Few makes of a list. -/
def fewL (L : List V3) : List V3 := (L.take 20).map cutV
theorem fewL_len (L : List V3) : (fewL L).length = min L.length 20 := by unfold fewL; rw [List.length_map, List.length_take, Nat.min_comm]
theorem cutB_sz (s : ByteArray) : (cutB s).size ≤ 300 := by
  unfold cutB
  rw [ByteArray.size_extract]
  omega
theorem fewL_sz {L : List V3} {v : V3} (h : v ∈ fewL L) : v.2.2.size ≤ 300 := by
  unfold fewL at h
  obtain ⟨u, _, rfl⟩ := List.mem_map.1 h
  exact cutB_sz _
theorem fewL_in {L : List V3} (hL : ∀ v ∈ L, InI v.2.1) {v : V3} (h : v ∈ fewL L) : InI v.2.1 := by
  unfold fewL at h
  obtain ⟨u, hu, rfl⟩ := List.mem_map.1 h
  exact hL u (List.mem_of_mem_take hu)
theorem IsOf.head {α : Type} {c : α → List Value} {n : Nat} {w : World} {a : Option Addr} {m : Nat} {L : List α} (h : IsOf c n w a m L) (k : Nat) : IsOf c n w a (min m k) (L.take k) := by
  refine ⟨by rw [List.length_take, h.1, Nat.min_comm], fun h0 => ?_⟩
  obtain ⟨b, off, ha, hr⟩ := h.2 (by omega)
  refine ⟨b, off, ha, hr.1, fun i hi j u hu => ?_⟩
  rw [List.length_take] at hi
  rw [List.getElem_take] at hu
  exact hr.2 i (by omega) j u hu
set_option maxHeartbeats 3200000 in
theorem few_any (a : Option Addr) (n cap : Nat) (L : List V3) (hc : n ≤ cap) (w : World) (hL : IsV w a n L) (hv : ∀ v ∈ L, v.2.2.size ≤ maxLen) :
    Calls Tryz.prog 11 #[.slice a n cap] w fun e w' => (∃ v, e = .returned v ∧ OwnV w.heap.size w' v (fewL L)) ∧ Below w.heap.size w w' := by
  have HL := Lib.hid hL
  have HH := Lib.hid (IsOf.head hL 20)
  have HV : Hid (∀ v ∈ L.take 20, v.2.2.size ≤ maxLen) := fun v h => hv v (List.mem_of_mem_take h)
  clear hL hv
  go_enter Tryz.func11, Tryz.ntmps11
  go_wp2_with fail
  obtain ⟨m, hm⟩ : ∃ m, (min (n : Int) 20).toNat = m := ⟨_, rfl⟩
  rw [hm]
  have hm2 : min n 20 = m := by omega
  rw [hm2] at HH
  have hm3 : m ≤ 20 := by omega
  refine (copyV_any a m cap (L.take 20) (by omega) _ HH.out).mono ?_
  rintro e w1 ⟨⟨v, rfl, hO⟩, hB⟩
  have HKL := Lib.hid HH.out.1
  have HR : Hid (fewL L = (L.take 20).map cutV) := rfl
  generalize L.take 20 = K at *
  clear HL HH hm hm2
  have HB1 := Lib.hid hB
  have HO1 := Lib.hid (show OwnV w.heap.size w1 v ((K.take 0).map cutV ++ K.drop 0) from hO)
  obtain ⟨va, vc, hve, _⟩ := hO.isOf cellsV_len
  rw [HKL.out] at hve
  subst hve
  clear hO hB
  go_wp2_with fail
  go_loopw [4] (fun i wr => ∃ k : Nat, k ≤ m ∧ i = .int .i64 (k : Int) ∧ Hid (Below w.heap.size w wr) ∧ Hid (OwnV w.heap.size wr (.slice va m vc) ((K.take k).map cutV ++ K.drop k))) (fun i _ => m - (intOf i).toNat)
  case atStart => exact ⟨0, Nat.zero_le _, rfl, HB1.out, HO1.out⟩
  case round =>
    obtain ⟨k, hk, rfl, HB, HO⟩ := hrel
    clear HB1 HO1
    by_cases hlt : k < m
    · have hkl : k < K.length := by rw [HKL.out]; exact hlt
      have hml : ((K.take k).map cutV ++ K.drop k).length = m := by simp; have := HKL.out; omega
      obtain ⟨g, rfl, hg, hgl, hth⟩ := OwnOf.there2 HO.out (by rw [hml]; omega)
      obtain ⟨b, off, hb, hbl, c1, c2, c3⟩ := isV_at (k := k) (by obtain ⟨a', c', he, h⟩ := HO.out.isOf cellsV_len; cases he; exact h) (by rw [hml]; exact hlt)
      cases hb
      rw [mix_at cutV K k hkl] at c3
      rw [Nat.zero_add] at c3
      have hfz := (hth (k * 3 + 2) (by rw [hml]; omega)).2
      rw [Nat.zero_add] at hfz
      have HN := Lib.hid (OwnOf.setAt cellsV_len HO.out (k := k) (j := 2) (by rw [hml]; exact hlt) (by decide) (x := cutV K[k]) (u := .string (cutB K[k].2.2)) (by rw [mix_at cutV K k hkl]; rfl))
      rw [mix_step cutV K k hkl] at HN
      have HBN := Lib.hid (HB.out.setCell (p := ⟨g, k * 3 + 2, none⟩) hg (.string (cutB K[k].2.2)))
      have hvz := HV.out K[k] (List.getElem_mem hkl)
      have HC : Hid (cutB K[k].2.2 = K[k].2.2.extract 0 (min (K[k].2.2.size : Int) 300).toNat) := rfl
      clear c1 c2 hth
      generalize K[k].2.2 = tx at *
      have hm0 : 0 ≤ min (tx.size : Int) 300 := by omega
      have hm1 : min (tx.size : Int) 300 ≤ (tx.size : Int) := by omega
      rw [HC.out] at HN HBN
      go_wp2_with fail
      go_region
      go_wp2_with fail
      exact ⟨⟨k + 1, by omega, by go_num, HBN.out.drew, OwnOf.drew HN.out⟩, by simp [intOf]; omega⟩
    · go_wp2_with fail
      go_ret
      refine ⟨⟨_, rfl, ?_⟩, HB.out⟩
      have h := HO.out
      rw [List.take_of_length_le (by rw [HKL.out]; omega), List.drop_of_length_le (by rw [HKL.out]; omega), List.append_nil] at h
      rw [HR.out]
      exact h
end Go.Proofs.YtfjefanhkbcfgaaGreatDoor.Va
