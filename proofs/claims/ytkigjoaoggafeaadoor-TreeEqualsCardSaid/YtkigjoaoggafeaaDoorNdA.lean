/- Lists of nodes in memory: how they read, copies, cuts. -/
import Derived.Test.YtkigjoaoggafeaaDoorRow
import Derived.Test.YtkigjoaoggafeaaDoorRows
import Derived.Deep.RegionLaw
import Derived.Lib.MinMax
import Derived.Deep.MidRow
namespace Go.Proofs.YtkigjoaoggafeaaDoor.Nd
open Go Go.RowKit
set_option linter.unusedVariables false
set_option linter.unusedSimpArgs false
structure ND where
  kd : Nat
  vk : Nat
  vn : Int
  vt : ByteArray
  c1 : Int
  r1 : Int
  c2 : Int
  r2 : Int
  op : Int
  fn : Nat
  n : Int
def cellsND (r : ND) : List Value := [.int .u8 (r.kd : Int), .int .u8 (r.vk : Int), .int .i64 r.vn, .string r.vt, .int .i64 r.c1, .int .i64 r.r1, .int .i64 r.c2, .int .i64 r.r2, .int .i64 r.op, .int .u8 (r.fn : Int), .int .i64 r.n]
theorem cellsND_len (r : ND) : (cellsND r).length = 11 := rfl
theorem cellsND_one (r : ND) : ∀ u ∈ cellsND r, u.oneCell' = true := by
  intro u hu; simp [cellsND] at hu; rcases hu with rfl | rfl | rfl | rfl | rfl | rfl | rfl | rfl | rfl | rfl | rfl <;> rfl
def AtND (w : World) (b off : Nat) (r : ND) : Prop :=
  w.cell? ⟨b, off, none⟩ = some (.int .u8 (r.kd : Int)) ∧ w.cell? ⟨b, off + 1, none⟩ = some (.int .u8 (r.vk : Int)) ∧ w.cell? ⟨b, off + 2, none⟩ = some (.int .i64 r.vn) ∧ w.cell? ⟨b, off + 3, none⟩ = some (.string r.vt) ∧ w.cell? ⟨b, off + 4, none⟩ = some (.int .i64 r.c1) ∧ w.cell? ⟨b, off + 5, none⟩ = some (.int .i64 r.r1) ∧ w.cell? ⟨b, off + 6, none⟩ = some (.int .i64 r.c2) ∧ w.cell? ⟨b, off + 7, none⟩ = some (.int .i64 r.r2) ∧ w.cell? ⟨b, off + 8, none⟩ = some (.int .i64 r.op) ∧ w.cell? ⟨b, off + 9, none⟩ = some (.int .u8 (r.fn : Int)) ∧ w.cell? ⟨b, off + 10, none⟩ = some (.int .i64 r.n)
theorem RowOf.atND {w : World} {b off : Nat} {L : List ND} (h : RowOf cellsND 11 w b off L) (k : Nat) (hk : k < L.length) : AtND w b (off + k * 11) L[k] :=
  ⟨h.2 k hk 0 _ rfl, h.2 k hk 1 _ rfl, h.2 k hk 2 _ rfl, h.2 k hk 3 _ rfl, h.2 k hk 4 _ rfl, h.2 k hk 5 _ rfl, h.2 k hk 6 _ rfl, h.2 k hk 7 _ rfl, h.2 k hk 8 _ rfl, h.2 k hk 9 _ rfl, h.2 k hk 10 _ rfl⟩
abbrev IsND (w : World) (a : Option Addr) (n : Nat) (L : List ND) : Prop := IsOf cellsND 11 w a n L
abbrev OwnND (B : Nat) (w : World) (v : Value) (L : List ND) : Prop := OwnOf 40 cellsND 11 B w v L
theorem infoND : (Tryd.prog.info? 40).map (fun i => (i.zero, i.size, i.bytes)) = some (some (.agg #[.int .u8 0, .int .u8 0, .int .i64 0, .string ByteArray.empty, .int .i64 0, .int .i64 0, .int .i64 0, .int .i64 0, .int .i64 0, .int .u8 0, .int .i64 0]), 11, 96) := by kernel_rfl
theorem zeroND : (Value.agg #[.int .u8 0, .int .u8 0, .int .i64 0, .string ByteArray.empty, .int .i64 0, .int .i64 0, .int .i64 0, .int .i64 0, .int .i64 0, .int .u8 0, .int .i64 0]).cells.size = 11 := rfl
theorem copyND_any (a : Option Addr) (len cap : Nat) (L : List ND) (hl : len * 96 ≤ 140737488355328) (w : World) (hL : IsND w a len L) :
    Calls Tryd.prog 23 #[.slice a len cap] w fun e w' => (∃ v, e = .returned v ∧ OwnND w.heap.size w' v L) ∧ Below w.heap.size w w' := by
  go_enter Tryd.func23, Tryd.ntmps23
  go_wp2_with (at_builtin; refine wpList_appOf rfl (.const (.slice none 0 0)) (.tmp 3) 22 rfl Tryd.underlying22 _ 96 infoND zeroND (by decide) (by decide) cellsND_len cellsND_one w.heap.size _ [] rfl (OwnOf.nil _ _ _ _ _) a len cap L rfl hL (by simp only [List.length_nil, Nat.zero_add]; omega) (Nat.le_refl _) ?_)
  intro v' w1 ho hb
  have HO := Lib.hid ho
  have HB := Lib.hid hb
  clear ho hb
  go_wp2_with fail
  go_ret
  exact ⟨⟨_, rfl, by simpa using HO.out⟩, HB.out⟩
/-- Writing one cell of an element of a list of the call's own. -/
theorem flat_set {α : Type} {c : α → List Value} {n : Nat} (hn : ∀ x, (c x).length = n) (x : α) (u : Value) (j : Nat) (hj : j < n) : ∀ (L : List α) (k : Nat) (hk : k < L.length), c x = (c L[k]).set j u → (L.flatMap c).set (k * n + j) u = (L.set k x).flatMap c
  | [], k, hk, _ => by simp at hk
  | y :: L, 0, hk, h => by
    rw [List.set_cons_zero, List.flatMap_cons, List.flatMap_cons, h, List.set_append_left _ _ (by rw [hn]; omega), Nat.zero_mul, Nat.zero_add]
    rfl
  | y :: L, k + 1, hk, h => by
    have e : (k + 1) * n + j = n + (k * n + j) := by rw [Nat.add_mul]; omega
    rw [List.set_cons_succ, List.flatMap_cons, List.flatMap_cons, e, List.set_append_right _ _ (by rw [hn]; omega), hn, Nat.add_sub_cancel_left, flat_set hn x u j hj L k (by simpa using hk) h]
theorem OwnOf.setAt {α : Type} {c : α → List Value} {n : Nat} {e : TypeId} (hn : ∀ x, (c x).length = n) {B : Nat} {w : World} {g m cp : Nat} {L : List α} (h : OwnOf e c n B w (.slice (some ⟨g, 0, none⟩) m cp) L) {k j : Nat} (hk : k < L.length) (hj : j < n) {x : α} {u : Value} (hx : c x = (c L[k]).set j u) :
    OwnOf e c n B (w.setCell ⟨g, k * n + j, none⟩ u) (.slice (some ⟨g, 0, none⟩) m cp) (L.set k x) := by
  unfold OwnOf at *
  obtain ⟨h1, h2⟩ := h
  rw [List.length_set, ← flat_set hn x u j hj L k hk hx]
  refine ⟨by rw [List.length_set]; exact h1, ?_⟩
  rcases h2 with ⟨hv, _⟩ | ⟨g', cap, cur, hv, hg, hh, hc, hcm, hsz, hx⟩
  · cases hv
  · have hv' := hv
    injection hv' with h3 h4 h5
    injection h3 with h3
    injection h3 with h3
    subst h3
    refine .inr ⟨g, cap, cur.setIfInBounds (k * n + j) u, hv, hg, ?_, hc, hcm, by simpa using hsz, ?_⟩
    · simp [World.setCell, Array.getElem?_modify, hh]
    · rw [Array.toList_setIfInBounds, List.take_set, hx]
theorem OwnOf.there2 {α : Type} {c : α → List Value} {n : Nat} {e : TypeId} {B : Nat} {w : World} {a : Option Addr} {m cp : Nat} {L : List α} (h : OwnOf e c n B w (.slice a m cp) L) (h0 : 0 < L.length) :
    ∃ g, a = some ⟨g, 0, none⟩ ∧ B ≤ g ∧ g < w.heap.size ∧ w.there g 0 (L.length * n) := by
  have h' := h
  rcases h.2 with ⟨_, h2⟩ | ⟨g, cap, cur, hv, hg, hh, hc, hcur, hsz, hx⟩
  · omega
  · injection hv with h1 h2 h3
    subst h1; subst h2
    refine ⟨g, rfl, hg, (Array.getElem?_eq_some_iff.1 hh).1, fun j hj => ?_⟩
    have := World.ownsRow.cellAt h' j hj
    rw [Nat.zero_add]
    exact ⟨by rw [this]; simp [h.1, hj], by simp [World.frozen?, hh]⟩
theorem mix_step {α : Type} (f : α → α) (K : List α) (k : Nat) (hk : k < K.length) : ((K.take k).map f ++ K.drop k).set k (f K[k]) = (K.take (k + 1)).map f ++ K.drop (k + 1) := by
  have hl : ((K.take k).map f).length = k := by rw [List.length_map, List.length_take]; omega
  rw [List.set_append_right _ _ (by omega), hl, Nat.sub_self, List.drop_eq_getElem_cons hk, List.set_cons_zero, List.take_succ_eq_append_getElem hk, List.map_append, List.append_assoc]
  rfl
theorem mix_at {α : Type} (f : α → α) (K : List α) (k : Nat) (hk : k < K.length) (h : k < ((K.take k).map f ++ K.drop k).length) : ((K.take k).map f ++ K.drop k)[k] = K[k] := by
  have hl : ((K.take k).map f).length = k := by rw [List.length_map, List.length_take]; omega
  rw [List.getElem_append_right (by omega), List.getElem_drop]
  congr 1
  omega
def cutB (s : ByteArray) : ByteArray := s.extract 0 (min (s.size : Int) 300).toNat
def cutN (v : ND) : ND := { v with vt := cutB v.vt }
/-- What louvrelaw08.Few makes of a list. -/
def fewL (L : List ND) : List ND := (L.take 300).map cutN
theorem fewL_len (L : List ND) : (fewL L).length = min L.length 300 := by unfold fewL; rw [List.length_map, List.length_take, Nat.min_comm]
theorem cutB_sz (s : ByteArray) : (cutB s).size ≤ 300 := by
  unfold cutB
  rw [ByteArray.size_extract]
  omega
theorem cutB_twice (s : ByteArray) : cutB (cutB s) = cutB s := by
  unfold cutB
  apply ByteArray.ext
  simp only [ByteArray.data_extract, ByteArray.size_extract]
  apply Array.ext'
  simp only [Array.toList_extract, List.extract_eq_take_drop, List.drop_zero, Nat.sub_zero]
  rw [List.take_take]
  congr 1
  omega
theorem fewL_twice (L : List ND) : fewL (fewL L) = fewL L := by
  have : (fewL L).take 300 = fewL L := List.take_of_length_le (by rw [fewL_len]; omega)
  show ((fewL L).take 300).map cutN = _
  rw [this]
  unfold fewL
  rw [List.map_map]
  apply List.map_congr_left
  intro v _
  show cutN (cutN v) = cutN v
  unfold cutN
  simp only [cutB_twice]
theorem fewL_sz {L : List ND} {v : ND} (h : v ∈ fewL L) : v.vt.size ≤ 300 := by
  unfold fewL at h
  obtain ⟨u, _, rfl⟩ := List.mem_map.1 h
  exact cutB_sz _
theorem IsOf.head {α : Type} {c : α → List Value} {n : Nat} {w : World} {a : Option Addr} {m : Nat} {L : List α} (h : IsOf c n w a m L) (k : Nat) : IsOf c n w a (min m k) (L.take k) := by
  refine ⟨by rw [List.length_take, h.1, Nat.min_comm], fun h0 => ?_⟩
  obtain ⟨b, off, ha, hr⟩ := h.2 (by omega)
  refine ⟨b, off, ha, hr.1, fun i hi j u hu => ?_⟩
  rw [List.length_take] at hi
  rw [List.getElem_take] at hu
  exact hr.2 i (by omega) j u hu
theorem isN_at {w : World} {a : Option Addr} {n : Nat} {L : List ND} (h : IsND w a n L) {k : Nat} (hkl : k < L.length) : ∃ b off, a = some ⟨b, off, none⟩ ∧ b < w.heap.size ∧ AtND w b (off + k * 11) L[k] := by
  obtain ⟨b, off, rfl, hrow⟩ := h.2 (by have := h.1; omega)
  exact ⟨b, off, rfl, hrow.1, RowOf.atND hrow k hkl⟩
set_option maxHeartbeats 3200000 in
theorem few_any (a : Option Addr) (n cap : Nat) (L : List ND) (hc : n ≤ cap) (w : World) (hL : IsND w a n L) (hv : ∀ v ∈ L, v.vt.size ≤ maxLen) :
    Calls Tryd.prog 8 #[.slice a n cap] w fun e w' => (∃ v, e = .returned v ∧ OwnND w.heap.size w' v (fewL L)) ∧ Below w.heap.size w w' := by
  have HL := Lib.hid hL
  have HH := Lib.hid (IsOf.head hL 300)
  have HV : Hid (∀ v ∈ L.take 300, v.vt.size ≤ maxLen) := fun v h => hv v (List.mem_of_mem_take h)
  clear hL hv
  go_enter Tryd.func8, Tryd.ntmps8
  go_wp2_with fail
  obtain ⟨m, hm⟩ : ∃ m, (min (n : Int) 300).toNat = m := ⟨_, rfl⟩
  rw [hm]
  have hm2 : min n 300 = m := by omega
  rw [hm2] at HH
  have hm3 : m ≤ 300 := by omega
  refine (copyND_any a m cap (L.take 300) (by omega) _ HH.out).mono ?_
  rintro e w1 ⟨⟨v, rfl, hO⟩, hB⟩
  have HKL := Lib.hid HH.out.1
  have HR : Hid (fewL L = (L.take 300).map cutN) := rfl
  generalize L.take 300 = K at *
  clear HL HH hm hm2
  have HB1 := Lib.hid hB
  have HO1 := Lib.hid (show OwnND w.heap.size w1 v ((K.take 0).map cutN ++ K.drop 0) from hO)
  obtain ⟨va, vc, hve, _⟩ := hO.isOf cellsND_len
  rw [HKL.out] at hve
  subst hve
  clear hO hB
  go_wp2_with fail
  go_loopw [4] (fun i wr => ∃ k : Nat, k ≤ m ∧ i = .int .i64 (k : Int) ∧ Hid (Below w.heap.size w wr) ∧ Hid (OwnND w.heap.size wr (.slice va m vc) ((K.take k).map cutN ++ K.drop k))) (fun i _ => m - (intOf i).toNat)
  case atStart => exact ⟨0, Nat.zero_le _, rfl, HB1.out, HO1.out⟩
  case round =>
    obtain ⟨k, hk, rfl, HB, HO⟩ := hrel
    clear HB1 HO1
    by_cases hlt : k < m
    · have hkl : k < K.length := by rw [HKL.out]; exact hlt
      have hml : ((K.take k).map cutN ++ K.drop k).length = m := by simp; have := HKL.out; omega
      obtain ⟨g, rfl, hg, hgl, hth⟩ := OwnOf.there2 HO.out (by rw [hml]; omega)
      obtain ⟨b, off, hb, hbl, c0, c1, c2, c3, c4⟩ := isN_at (k := k) (by obtain ⟨a', c', he, h⟩ := HO.out.isOf cellsND_len; cases he; exact h) (by rw [hml]; exact hlt)
      cases hb
      rw [mix_at cutN K k hkl] at c3
      rw [Nat.zero_add] at c3
      have hfz := (hth (k * 11 + 3) (by rw [hml]; omega)).2
      rw [Nat.zero_add] at hfz
      have HN := Lib.hid (OwnOf.setAt cellsND_len HO.out (k := k) (j := 3) (by rw [hml]; exact hlt) (by decide) (x := cutN K[k]) (u := .string (cutB K[k].vt)) (by rw [mix_at cutN K k hkl]; rfl))
      rw [mix_step cutN K k hkl] at HN
      have HBN := Lib.hid (HB.out.setCell (p := ⟨g, k * 11 + 3, none⟩) hg (.string (cutB K[k].vt)))
      have hvz := HV.out K[k] (List.getElem_mem hkl)
      have HC : Hid (cutB K[k].vt = K[k].vt.extract 0 (min (K[k].vt.size : Int) 300).toNat) := rfl
      clear c0 c1 c2 c4 hth
      generalize K[k].vt = tx at *
      have hm0 : 0 ≤ min (tx.size : Int) 300 := by omega
      have hm1 : min (tx.size : Int) 300 ≤ (tx.size : Int) := by omega
      rw [HC.out] at HN HBN
      go_wp2_with fail
      go_region
      go_wp2_with fail
      exact ⟨⟨k + 1, by omega, by go_num, HBN.out.drew, OwnOf.drew HN.out⟩, by simp [intOf]; omega⟩
    · go_wp2_with fail
      go_ret
      refine ⟨⟨_, rfl, ?_⟩, HB.out⟩
      have h := HO.out
      rw [List.take_of_length_le (by rw [HKL.out]; omega), List.drop_of_length_le (by rw [HKL.out]; omega), List.append_nil] at h
      rw [HR.out]
      exact h
end Go.Proofs.YtkigjoaoggafeaaDoor.Nd
