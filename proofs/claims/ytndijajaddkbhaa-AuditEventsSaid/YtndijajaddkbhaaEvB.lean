/- What a user sees of a log: both sides; and what a list of the call's own lets be written. -/
import Derived.Test.YtndijajaddkbhaaEvA
import Derived.Deep.MidRow
namespace Go.Proofs.Ytndijajaddkbhaa.Re
open Go.RowKit AM
/-- The cells of a list of the call's own are there and may be written. -/
theorem OwnOf.there {α : Type} {c : α → List Value} {n : Nat} {e : TypeId} {B : Nat} {w : World} {a : Option Addr} {m cp : Nat} {L : List α} (h : OwnOf e c n B w (.slice a m cp) L) (h0 : 0 < L.length) :
    ∃ g, a = some ⟨g, 0, none⟩ ∧ B ≤ g ∧ g < w.heap.size ∧ w.there g 0 (L.length * n) := by
  have h' := h
  rcases h.2 with ⟨_, h2⟩ | ⟨g, cap, cur, hv, hg, hh, hc, hcur, hsz, hx⟩
  · omega
  · injection hv with h1 h2 h3
    subst h1; subst h2
    refine ⟨g, rfl, hg, (Array.getElem?_eq_some_iff.1 hh).1, fun j hj => ?_⟩
    have := World.ownsRow.cellAt h' j hj
    rw [Nat.zero_add]
    exact ⟨by rw [this]; simp [h.1, hj], by simp [World.frozen?, hh]⟩
theorem OwnOf.weak {α : Type} {c : α → List Value} {n : Nat} {e : TypeId} {B B' : Nat} {w : World} {v : Value} {L : List α} (h : OwnOf e c n B w v L) (hB : B' ≤ B) : OwnOf e c n B' w v L := by
  obtain ⟨h1, h2⟩ := h
  refine ⟨h1, ?_⟩
  rcases h2 with h2 | ⟨g, cap, cur, hv, hg, hr⟩
  · exact .inl h2
  · exact .inr ⟨g, cap, cur, hv, by omega, hr⟩
theorem there_mid {w : World} {g N n k : Nat} (h : w.there g 0 (N * n)) (hk : k < N) : w.there g (k * n) n := fun j hj => by
  have := h (k * n + j) (by have : (k + 1) * n ≤ N * n := Nat.mul_le_mul_right _ hk; rw [Nat.add_mul] at this; omega)
  rwa [Nat.zero_add] at this
theorem below_setCells {B : Nat} {w w' : World} (h : Below B w w') {g : Nat} (hg : B ≤ g) : ∀ (vs : List Value) (o : Nat), Below B w (w'.setCells g o vs) := by
  intro vs
  induction vs generalizing w' with
  | nil => intro o; exact h
  | cons v vs ih => intro o; rw [World.setCells]; exact ih (h.setCell (p := ⟨g, o, none⟩) hg v) (o + 1)
theorem size_setCells (g : Nat) : ∀ (vs : List Value) (o : Nat) (w : World), (w.setCells g o vs).heap.size = w.heap.size := by
  intro vs
  induction vs with
  | nil => intro o w; rfl
  | cons v vs ih => intro o w; rw [World.setCells, ih]; simp [World.setCell]
def seeEV (u : Int) (g : EV) : Bool := hasB g.tos u
theorem cloEV_any (g : EV) (u : Int) (ub : Nat) (w : World) (hub : ub < w.heap.size) (hu : w.cell? ⟨ub, 0, none⟩ = some (.int .i64 u)) :
    Calls Try.prog 96 #[.agg (cellsEV g).toArray, .pointer (some ⟨ub, 0, none⟩)] w fun e w' => e = .returned (.bool (seeEV u g)) ∧ Below w.heap.size w w' := by
  have HB := Lib.hid (below_alloc w (.cells (cellsEV g).toArray 84))
  obtain ⟨x1, x2, x3, x4, x5, x6, x7, x8, x9⟩ := g
  unfold cellsEV seeEV at *
  dsimp only at *
  go_enter Try.func96, Try.ntmps96
  go_wp2_with fail
  refine (has_any x9 u _).mono ?_
  rintro e w' ⟨rfl, rfl⟩
  go_wp2_with fail
  go_ret
  exact ⟨rfl, HB.out⟩
theorem take_fEV (P : EV → Bool) (L : List EV) (k : Nat) (h : k < L.length) : (L.take (k + 1)).filter P = (L.take k).filter P ++ (if P L[k] then [L[k]] else []) := by
  rw [List.take_succ_eq_append_getElem h, List.filter_append]
  congr 1
  cases hp : P L[k] <;> simp [hp]
set_option maxRecDepth 100000 in
set_option maxHeartbeats 3200000 in
theorem filtEV_any (u : Int) (ub : Nat) (a : Option Addr) (len cap : Nat) (L : List EV) (hl : len ≤ 100000) (w : World) (hL : IsEV w a len L) (hub : ub < w.heap.size) (hu : w.cell? ⟨ub, 0, none⟩ = some (.int .i64 u)) :
    Calls Try.prog 95 #[.slice a len cap, .func (.func 96) #[] #[.pointer (some ⟨ub, 0, none⟩)]] w fun e w' => (∃ v, e = .returned v ∧ OwnEV w.heap.size w' v (L.filter (seeEV u))) ∧ Below w.heap.size w w' := by
  have HL := Lib.hid hL
  have HLL := Lib.hid hL.1
  have HU := Lib.hid hu
  clear hL hu
  go_enter Try.func95, Try.ntmps95
  go_wp2_with fail
  go_loopw [5, 10] (fun v i wr => ∃ k : Nat, k ≤ len ∧ i = .int .i64 k ∧ OwnEV w.heap.size wr v ((L.take k).filter (seeEV u)) ∧ Below w.heap.size w wr) (fun _ i _ => len - (intOf i).toNat)
  case atStart => exact ⟨0, Nat.zero_le _, rfl, OwnOf.nil _ _ _ _ _, Below.refl _ _⟩
  case round =>
    obtain ⟨k, hk, rfl, hv, hB⟩ := hrel
    obtain ⟨va, vc, rfl, _⟩ := hv.isOf cellsEV_len
    have HV := Lib.hid hv
    have HB := Lib.hid hB
    clear hv hB
    by_cases hlt : k < len
    · obtain ⟨bb, off, rfl, hrr⟩ := (HL.out.later HB.out).2 (by omega)
      have hkl : k < L.length := by rw [HLL.out]; exact hlt
      obtain ⟨c1, c2, c3, c4, c5, c6, c7, c8, c9⟩ := RowOf.atEV hrr k hkl
      have HT := Lib.hid (take_fEV (seeEV u) L k hkl)
      have HC := Lib.hid (cloEV_any L[k] u ub)
      have hml : ((L.take k).filter (seeEV u)).length ≤ k := Nat.le_trans (List.length_filter_le _ _) (by rw [List.length_take]; omega)
      have HBX := Lib.hid (BoxEV.start wr L[k] 84)
      have HBA := Lib.hid (below_alloc wr (.cells (cellsEV L[k]).toArray 84))
      generalize (L.take k).filter (seeEV u) = M at *
      clear hrr
      generalize L[k] = r at *
      have HV1 := Lib.hid (HV.out.alloc (.cells (cellsEV r).toArray 84))
      obtain ⟨x1, x2, x3, x4, x5, x6, x7, x8, x9⟩ := r
      unfold cellsEV at HBX HBA HC HV1
      dsimp only at *
      go_wp2_with fail
      clear c1 c2 c3 c4 c5 c6 c7 c8 c9
      generalize wr.alloc (.cells #[.int .i64 x1, .int .i64 x2, .int .u8 (x3.toNat : Int), .int .i64 x4, .int .i64 x5, .int .i64 x6, .int .i64 x7, .bool x8, .int .u64 (x9.toNat : Int)] 84) = wa at *
      have HB1 := Lib.hid (Below.next HB.out HBA.out)
      refine (HC.out wa (Nat.lt_of_lt_of_le hub HB1.out.size) ((HB1.out.cell (p := ⟨ub, 0, none⟩) hub).trans HU.out)).mono ?_
      rintro e w1 ⟨rfl, hB1⟩
      have HB2 := Lib.hid (Below.next HB1.out hB1)
      have HV2 := Lib.hid (HV1.out.later hB1)
      have HX2 := Lib.hid (HBX.out.later hB1)
      clear hB1 HB1 HV1 HBX HBA HC HV
      cases hp : seeEV u ⟨x1, x2, x3, x4, x5, x6, x7, x8, x9⟩
      · have HE : Hid ((L.take (k + 1)).filter (seeEV u) = M) := by unfold Hid; rw [HT.out, hp]; simp
        clear hp HT
        go_wp2_with fail
        go_roundw
        case rel => exact ⟨k + 1, by omega, by go_num, by rw [HE.out]; exact HV2.out, HB2.out⟩
        case measure => simp [intOf]; omega
      · have HE : Hid ((L.take (k + 1)).filter (seeEV u) = M ++ [⟨x1, x2, x3, x4, x5, x6, x7, x8, x9⟩]) := by unfold Hid; rw [HT.out, hp]; rfl
        clear hp HT
        obtain ⟨_, d1, d2, d3, d4, d5, d6, d7, d8, d9⟩ := HX2.out
        dsimp only at d1 d2 d3 d4 d5 d6 d7 d8 d9
        have HV3 := Lib.hid (HV2.out.alloc (.cells #[.int .i64 x1, .int .i64 x2, .int .u8 (x3.toNat : Int), .int .i64 x4, .int .i64 x5, .int .i64 x6, .int .i64 x7, .bool x8, .int .u64 (x9.toNat : Int)] 84))
        have HI3 := Lib.hid (isOf_new (c := cellsEV) (n := 9) w1 #[.int .i64 x1, .int .i64 x2, .int .u8 (x3.toNat : Int), .int .i64 x4, .int .i64 x5, .int .i64 x6, .int .i64 x7, .bool x8, .int .u64 (x9.toNat : Int)] 84 ⟨x1, x2, x3, x4, x5, x6, x7, x8, x9⟩ rfl)
        have HZ3 : Hid (w.heap.size ≤ (w1.alloc (.cells #[.int .i64 x1, .int .i64 x2, .int .u8 (x3.toNat : Int), .int .i64 x4, .int .i64 x5, .int .i64 x6, .int .i64 x7, .bool x8, .int .u64 (x9.toNat : Int)] 84)).heap.size) := by unfold Hid; rw [World.size_alloc]; have := HB2.out.size; omega
        have HM3 : Hid ((M.length + 1) * 72 ≤ 140737488355328) := by unfold Hid; omega
        go_wp2_with (at_builtin; refine wpList_appOf rfl (.tmp 17) (.tmp 19) 71 rfl Try.underlying71 _ 72 infoEV zeroEV (by decide) (by decide) cellsEV_len cellsEV_one w.heap.size (.slice va M.length vc) M rfl HV3.out (some ⟨w1.heap.size, 0, none⟩) 1 1 [⟨x1, x2, x3, x4, x5, x6, x7, x8, x9⟩] rfl HI3.out HM3.out HZ3.out ?_)
        intro v4 w4 ho4 hb4
        have HO4 := Lib.hid ho4
        have HB4 := Lib.hid (Below.trans (HB2.out.alloc HB2.out.size _) hb4)
        clear ho4 hb4
        go_wp2_with fail
        go_roundw
        case rel => exact ⟨k + 1, by omega, by go_num, by rw [HE.out]; exact HO4.out, HB4.out⟩
        case measure => simp [intOf]; omega
    · obtain rfl : k = len := by omega
      have HT : Hid (L.take k = L) := List.take_of_length_le (by rw [HLL.out]; exact Nat.le_refl _)
      have hV : OwnEV w.heap.size wr (.slice va ((L.take k).filter (seeEV u)).length vc) (L.filter (seeEV u)) := by have := HV.out; rw [HT.out] at this ⊢; exact this
      have HV9 := Lib.hid hV
      clear hV
      go_wp2_with fail
      go_ret
      exact ⟨⟨_, rfl, HV9.out⟩, HB.out⟩
theorem seeEV_any (u : Int) (a : Option Addr) (len cap : Nat) (L : List EV) (hl : len ≤ 100000) (w : World) (hL : IsEV w a len L) :
    Calls Try.prog 43 #[.int .i64 u, .slice a len cap] w fun e w' => (∃ v, e = .returned v ∧ OwnEV w.heap.size w' v (L.filter (seeEV u))) ∧ Below w.heap.size w w' := by
  have HL := Lib.hid hL
  have HB := Lib.hid (below_alloc w (.cells #[.int .i64 u] 3))
  have HU : Hid ((w.alloc (.cells #[.int .i64 u] 3)).cell? ⟨w.heap.size, 0, none⟩ = some (.int .i64 u)) := by unfold Hid; simp
  have HZ : Hid (w.heap.size < (w.alloc (.cells #[.int .i64 u] 3)).heap.size) := by unfold Hid; rw [World.size_alloc]; omega
  clear hL
  go_enter Try.func43, Try.ntmps43
  go_wp2_with fail
  refine (filtEV_any u w.heap.size a len cap L hl _ (HL.out.later HB.out) HZ.out HU.out).mono ?_
  rintro e w1 ⟨⟨v, rfl, ho⟩, hB1⟩
  have HO := Lib.hid (OwnOf.weak ho (Nat.le_of_lt HZ.out))
  have HB1 := Lib.hid (Below.next HB.out hB1)
  clear ho hB1
  go_wp2_with fail
  go_ret
  exact ⟨⟨_, rfl, HO.out⟩, HB1.out⟩
set_option maxRecDepth 100000 in
set_option maxHeartbeats 3200000 in
theorem sSeeEV_any (u : Int) (a : Option Addr) (len cap : Nat) (L : List EV) (hl : len ≤ 100000) (w : World) (hL : IsEV w a len L) :
    Calls Try.prog 45 #[.int .i64 u, .slice a len cap] w fun e w' => (∃ v, e = .returned v ∧ OwnEV w.heap.size w' v (L.filter (seeEV u))) ∧ Below w.heap.size w w' := by
  have HL := Lib.hid hL
  have HLL := Lib.hid hL.1
  clear hL
  go_enter Try.func45, Try.ntmps45
  go_wp2_with fail
  go_loopw [5, 6] (fun v i wr => ∃ k : Nat, k ≤ len ∧ i = .int .i64 k ∧ OwnEV w.heap.size wr v ((L.take k).filter (seeEV u)) ∧ Below w.heap.size w wr) (fun _ i _ => len - (intOf i).toNat)
  case atStart => exact ⟨0, Nat.zero_le _, rfl, OwnOf.nil _ _ _ _ _, Below.refl _ _⟩
  case round =>
    obtain ⟨k, hk, rfl, hv, hB⟩ := hrel
    obtain ⟨va, vc, rfl, _⟩ := hv.isOf cellsEV_len
    have HV := Lib.hid hv
    have HB := Lib.hid hB
    clear hv hB
    by_cases hlt : k < len
    · obtain ⟨bb, off, rfl, hrr⟩ := (HL.out.later HB.out).2 (by omega)
      have hbl := hrr.1
      have hkl : k < L.length := by rw [HLL.out]; exact hlt
      obtain ⟨c1, c2, c3, c4, c5, c6, c7, c8, c9⟩ := RowOf.atEV hrr k hkl
      have HT := Lib.hid (take_fEV (seeEV u) L k hkl)
      have HS : Hid (seeEV u L[k] = hasB L[k].tos u) := rfl
      have hml : ((L.take k).filter (seeEV u)).length ≤ k := Nat.le_trans (List.length_filter_le _ _) (by rw [List.length_take]; omega)
      generalize (L.take k).filter (seeEV u) = M at *
      clear hrr
      generalize L[k] = r at *
      obtain ⟨x1, x2, x3, x4, x5, x6, x7, x8, x9⟩ := r
      dsimp only at *
      go_wp2_with fail
      refine (shas_any x9 u _).mono ?_
      rintro e w1 ⟨rfl, rfl⟩
      cases hp : hasB x9 u
      · have HE : Hid ((L.take (k + 1)).filter (seeEV u) = M) := by unfold Hid; rw [HT.out, HS.out, hp]; simp
        clear hp HT HS
        go_wp2_with fail
        go_roundw
        case rel => exact ⟨k + 1, by omega, by go_num, by rw [HE.out]; exact HV.out, HB.out⟩
        case measure => simp [intOf]; omega
      · have HE : Hid ((L.take (k + 1)).filter (seeEV u) = M ++ [⟨x1, x2, x3, x4, x5, x6, x7, x8, x9⟩]) := by unfold Hid; rw [HT.out, HS.out, hp]; rfl
        clear hp HT HS
        have HV3 := Lib.hid (HV.out.alloc (.cells #[.int .i64 x1, .int .i64 x2, .int .u8 (x3.toNat : Int), .int .i64 x4, .int .i64 x5, .int .i64 x6, .int .i64 x7, .bool x8, .int .u64 (x9.toNat : Int)] 84))
        have HI3 := Lib.hid (isOf_new (c := cellsEV) (n := 9) wr #[.int .i64 x1, .int .i64 x2, .int .u8 (x3.toNat : Int), .int .i64 x4, .int .i64 x5, .int .i64 x6, .int .i64 x7, .bool x8, .int .u64 (x9.toNat : Int)] 84 ⟨x1, x2, x3, x4, x5, x6, x7, x8, x9⟩ rfl)
        have HZ3 : Hid (w.heap.size ≤ (wr.alloc (.cells #[.int .i64 x1, .int .i64 x2, .int .u8 (x3.toNat : Int), .int .i64 x4, .int .i64 x5, .int .i64 x6, .int .i64 x7, .bool x8, .int .u64 (x9.toNat : Int)] 84)).heap.size) := by unfold Hid; rw [World.size_alloc]; have := HB.out.size; omega
        have HM3 : Hid ((M.length + 1) * 72 ≤ 140737488355328) := by unfold Hid; omega
        go_wp2_with (at_builtin; refine wpList_appOf rfl (.tmp 20) (.tmp 25) 71 rfl Try.underlying71 _ 72 infoEV zeroEV (by decide) (by decide) cellsEV_len cellsEV_one w.heap.size (.slice va M.length vc) M rfl HV3.out (some ⟨wr.heap.size, 0, none⟩) 1 1 [⟨x1, x2, x3, x4, x5, x6, x7, x8, x9⟩] rfl HI3.out HM3.out HZ3.out ?_)
        intro v4 w4 ho4 hb4
        have HO4 := Lib.hid ho4
        have HB4 := Lib.hid (Below.trans (HB.out.alloc HB.out.size _) hb4)
        clear ho4 hb4
        go_wp2_with fail
        go_roundw
        case rel => exact ⟨k + 1, by omega, by go_num, by rw [HE.out]; exact HO4.out, HB4.out⟩
        case measure => simp [intOf]; omega
    · obtain rfl : k = len := by omega
      have HT : Hid (L.take k = L) := List.take_of_length_le (by rw [HLL.out]; exact Nat.le_refl _)
      have hV : OwnEV w.heap.size wr (.slice va ((L.take k).filter (seeEV u)).length vc) (L.filter (seeEV u)) := by have := HV.out; rw [HT.out] at this ⊢; exact this
      have HV9 := Lib.hid hV
      clear hV
      go_wp2_with fail
      go_ret
      exact ⟨⟨_, rfl, HV9.out⟩, HB.out⟩
def seeLV (u : Int) (g : LV) : Bool := hasB g.tos u
theorem cloLV_any (g : LV) (u : Int) (ub : Nat) (w : World) (hub : ub < w.heap.size) (hu : w.cell? ⟨ub, 0, none⟩ = some (.int .i64 u)) :
    Calls Try.prog 99 #[.agg (cellsLV g).toArray, .pointer (some ⟨ub, 0, none⟩)] w fun e w' => e = .returned (.bool (seeLV u g)) ∧ Below w.heap.size w w' := by
  have HB := Lib.hid (below_alloc w (.cells (cellsLV g).toArray 88))
  obtain ⟨x1, x2, x3, x4, x5, x6, x7, x8, x9, x10, x11⟩ := g
  unfold cellsLV seeLV at *
  dsimp only at *
  go_enter Try.func99, Try.ntmps99
  go_wp2_with fail
  refine (has_any x11 u _).mono ?_
  rintro e w' ⟨rfl, rfl⟩
  go_wp2_with fail
  go_ret
  exact ⟨rfl, HB.out⟩
theorem take_fLV (P : LV → Bool) (L : List LV) (k : Nat) (h : k < L.length) : (L.take (k + 1)).filter P = (L.take k).filter P ++ (if P L[k] then [L[k]] else []) := by
  rw [List.take_succ_eq_append_getElem h, List.filter_append]
  congr 1
  cases hp : P L[k] <;> simp [hp]
set_option maxRecDepth 100000 in
set_option maxHeartbeats 3200000 in
theorem filtLV_any (u : Int) (ub : Nat) (a : Option Addr) (len cap : Nat) (L : List LV) (hl : len ≤ 100000) (w : World) (hL : IsLV w a len L) (hub : ub < w.heap.size) (hu : w.cell? ⟨ub, 0, none⟩ = some (.int .i64 u)) :
    Calls Try.prog 98 #[.slice a len cap, .func (.func 99) #[] #[.pointer (some ⟨ub, 0, none⟩)]] w fun e w' => (∃ v, e = .returned v ∧ OwnLV w.heap.size w' v (L.filter (seeLV u))) ∧ Below w.heap.size w w' := by
  have HL := Lib.hid hL
  have HLL := Lib.hid hL.1
  have HU := Lib.hid hu
  clear hL hu
  go_enter Try.func98, Try.ntmps98
  go_wp2_with fail
  go_loopw [5, 10] (fun v i wr => ∃ k : Nat, k ≤ len ∧ i = .int .i64 k ∧ OwnLV w.heap.size wr v ((L.take k).filter (seeLV u)) ∧ Below w.heap.size w wr) (fun _ i _ => len - (intOf i).toNat)
  case atStart => exact ⟨0, Nat.zero_le _, rfl, OwnOf.nil _ _ _ _ _, Below.refl _ _⟩
  case round =>
    obtain ⟨k, hk, rfl, hv, hB⟩ := hrel
    obtain ⟨va, vc, rfl, _⟩ := hv.isOf cellsLV_len
    have HV := Lib.hid hv
    have HB := Lib.hid hB
    clear hv hB
    by_cases hlt : k < len
    · obtain ⟨bb, off, rfl, hrr⟩ := (HL.out.later HB.out).2 (by omega)
      have hkl : k < L.length := by rw [HLL.out]; exact hlt
      obtain ⟨c1, c2, c3, c4, c5, c6, c7, c8, c9, c10, c11⟩ := RowOf.atLV hrr k hkl
      have HT := Lib.hid (take_fLV (seeLV u) L k hkl)
      have HC := Lib.hid (cloLV_any L[k] u ub)
      have hml : ((L.take k).filter (seeLV u)).length ≤ k := Nat.le_trans (List.length_filter_le _ _) (by rw [List.length_take]; omega)
      have HBX := Lib.hid (BoxLV.start wr L[k] 88)
      have HBA := Lib.hid (below_alloc wr (.cells (cellsLV L[k]).toArray 88))
      generalize (L.take k).filter (seeLV u) = M at *
      clear hrr
      generalize L[k] = r at *
      have HV1 := Lib.hid (HV.out.alloc (.cells (cellsLV r).toArray 88))
      obtain ⟨x1, x2, x3, x4, x5, x6, x7, x8, x9, x10, x11⟩ := r
      unfold cellsLV at HBX HBA HC HV1
      dsimp only at *
      go_wp2_with fail
      clear c1 c2 c3 c4 c5 c6 c7 c8 c9 c10 c11
      generalize wr.alloc (.cells #[.int .i64 x1, .int .i64 x2, .int .i64 x3, .int .i64 x4, .int .u8 (x5.toNat : Int), .int .i64 x6, .int .i64 x7, .int .i64 x8, .int .i64 x9, .int .i64 x10, .int .u64 (x11.toNat : Int)] 88) = wa at *
      have HB1 := Lib.hid (Below.next HB.out HBA.out)
      refine (HC.out wa (Nat.lt_of_lt_of_le hub HB1.out.size) ((HB1.out.cell (p := ⟨ub, 0, none⟩) hub).trans HU.out)).mono ?_
      rintro e w1 ⟨rfl, hB1⟩
      have HB2 := Lib.hid (Below.next HB1.out hB1)
      have HV2 := Lib.hid (HV1.out.later hB1)
      have HX2 := Lib.hid (HBX.out.later hB1)
      clear hB1 HB1 HV1 HBX HBA HC HV
      cases hp : seeLV u ⟨x1, x2, x3, x4, x5, x6, x7, x8, x9, x10, x11⟩
      · have HE : Hid ((L.take (k + 1)).filter (seeLV u) = M) := by unfold Hid; rw [HT.out, hp]; simp
        clear hp HT
        go_wp2_with fail
        go_roundw
        case rel => exact ⟨k + 1, by omega, by go_num, by rw [HE.out]; exact HV2.out, HB2.out⟩
        case measure => simp [intOf]; omega
      · have HE : Hid ((L.take (k + 1)).filter (seeLV u) = M ++ [⟨x1, x2, x3, x4, x5, x6, x7, x8, x9, x10, x11⟩]) := by unfold Hid; rw [HT.out, hp]; rfl
        clear hp HT
        obtain ⟨_, d1, d2, d3, d4, d5, d6, d7, d8, d9, d10, d11⟩ := HX2.out
        dsimp only at d1 d2 d3 d4 d5 d6 d7 d8 d9 d10 d11
        have HV3 := Lib.hid (HV2.out.alloc (.cells #[.int .i64 x1, .int .i64 x2, .int .i64 x3, .int .i64 x4, .int .u8 (x5.toNat : Int), .int .i64 x6, .int .i64 x7, .int .i64 x8, .int .i64 x9, .int .i64 x10, .int .u64 (x11.toNat : Int)] 88))
        have HI3 := Lib.hid (isOf_new (c := cellsLV) (n := 11) w1 #[.int .i64 x1, .int .i64 x2, .int .i64 x3, .int .i64 x4, .int .u8 (x5.toNat : Int), .int .i64 x6, .int .i64 x7, .int .i64 x8, .int .i64 x9, .int .i64 x10, .int .u64 (x11.toNat : Int)] 88 ⟨x1, x2, x3, x4, x5, x6, x7, x8, x9, x10, x11⟩ rfl)
        have HZ3 : Hid (w.heap.size ≤ (w1.alloc (.cells #[.int .i64 x1, .int .i64 x2, .int .i64 x3, .int .i64 x4, .int .u8 (x5.toNat : Int), .int .i64 x6, .int .i64 x7, .int .i64 x8, .int .i64 x9, .int .i64 x10, .int .u64 (x11.toNat : Int)] 88)).heap.size) := by unfold Hid; rw [World.size_alloc]; have := HB2.out.size; omega
        have HM3 : Hid ((M.length + 1) * 88 ≤ 140737488355328) := by unfold Hid; omega
        go_wp2_with (at_builtin; refine wpList_appOf rfl (.tmp 17) (.tmp 19) 72 rfl Try.underlying72 _ 88 infoLV zeroLV (by decide) (by decide) cellsLV_len cellsLV_one w.heap.size (.slice va M.length vc) M rfl HV3.out (some ⟨w1.heap.size, 0, none⟩) 1 1 [⟨x1, x2, x3, x4, x5, x6, x7, x8, x9, x10, x11⟩] rfl HI3.out HM3.out HZ3.out ?_)
        intro v4 w4 ho4 hb4
        have HO4 := Lib.hid ho4
        have HB4 := Lib.hid (Below.trans (HB2.out.alloc HB2.out.size _) hb4)
        clear ho4 hb4
        go_wp2_with fail
        go_roundw
        case rel => exact ⟨k + 1, by omega, by go_num, by rw [HE.out]; exact HO4.out, HB4.out⟩
        case measure => simp [intOf]; omega
    · obtain rfl : k = len := by omega
      have HT : Hid (L.take k = L) := List.take_of_length_le (by rw [HLL.out]; exact Nat.le_refl _)
      have hV : OwnLV w.heap.size wr (.slice va ((L.take k).filter (seeLV u)).length vc) (L.filter (seeLV u)) := by have := HV.out; rw [HT.out] at this ⊢; exact this
      have HV9 := Lib.hid hV
      clear hV
      go_wp2_with fail
      go_ret
      exact ⟨⟨_, rfl, HV9.out⟩, HB.out⟩
theorem seeLV_any (u : Int) (a : Option Addr) (len cap : Nat) (L : List LV) (hl : len ≤ 100000) (w : World) (hL : IsLV w a len L) :
    Calls Try.prog 44 #[.int .i64 u, .slice a len cap] w fun e w' => (∃ v, e = .returned v ∧ OwnLV w.heap.size w' v (L.filter (seeLV u))) ∧ Below w.heap.size w w' := by
  have HL := Lib.hid hL
  have HB := Lib.hid (below_alloc w (.cells #[.int .i64 u] 3))
  have HU : Hid ((w.alloc (.cells #[.int .i64 u] 3)).cell? ⟨w.heap.size, 0, none⟩ = some (.int .i64 u)) := by unfold Hid; simp
  have HZ : Hid (w.heap.size < (w.alloc (.cells #[.int .i64 u] 3)).heap.size) := by unfold Hid; rw [World.size_alloc]; omega
  clear hL
  go_enter Try.func44, Try.ntmps44
  go_wp2_with fail
  refine (filtLV_any u w.heap.size a len cap L hl _ (HL.out.later HB.out) HZ.out HU.out).mono ?_
  rintro e w1 ⟨⟨v, rfl, ho⟩, hB1⟩
  have HO := Lib.hid (OwnOf.weak ho (Nat.le_of_lt HZ.out))
  have HB1 := Lib.hid (Below.next HB.out hB1)
  clear ho hB1
  go_wp2_with fail
  go_ret
  exact ⟨⟨_, rfl, HO.out⟩, HB1.out⟩
set_option maxRecDepth 100000 in
set_option maxHeartbeats 3200000 in
theorem sSeeLV_any (u : Int) (a : Option Addr) (len cap : Nat) (L : List LV) (hl : len ≤ 100000) (w : World) (hL : IsLV w a len L) :
    Calls Try.prog 46 #[.int .i64 u, .slice a len cap] w fun e w' => (∃ v, e = .returned v ∧ OwnLV w.heap.size w' v (L.filter (seeLV u))) ∧ Below w.heap.size w w' := by
  have HL := Lib.hid hL
  have HLL := Lib.hid hL.1
  clear hL
  go_enter Try.func46, Try.ntmps46
  go_wp2_with fail
  go_loopw [5, 6] (fun v i wr => ∃ k : Nat, k ≤ len ∧ i = .int .i64 k ∧ OwnLV w.heap.size wr v ((L.take k).filter (seeLV u)) ∧ Below w.heap.size w wr) (fun _ i _ => len - (intOf i).toNat)
  case atStart => exact ⟨0, Nat.zero_le _, rfl, OwnOf.nil _ _ _ _ _, Below.refl _ _⟩
  case round =>
    obtain ⟨k, hk, rfl, hv, hB⟩ := hrel
    obtain ⟨va, vc, rfl, _⟩ := hv.isOf cellsLV_len
    have HV := Lib.hid hv
    have HB := Lib.hid hB
    clear hv hB
    by_cases hlt : k < len
    · obtain ⟨bb, off, rfl, hrr⟩ := (HL.out.later HB.out).2 (by omega)
      have hbl := hrr.1
      have hkl : k < L.length := by rw [HLL.out]; exact hlt
      obtain ⟨c1, c2, c3, c4, c5, c6, c7, c8, c9, c10, c11⟩ := RowOf.atLV hrr k hkl
      have HT := Lib.hid (take_fLV (seeLV u) L k hkl)
      have HS : Hid (seeLV u L[k] = hasB L[k].tos u) := rfl
      have hml : ((L.take k).filter (seeLV u)).length ≤ k := Nat.le_trans (List.length_filter_le _ _) (by rw [List.length_take]; omega)
      generalize (L.take k).filter (seeLV u) = M at *
      clear hrr
      generalize L[k] = r at *
      obtain ⟨x1, x2, x3, x4, x5, x6, x7, x8, x9, x10, x11⟩ := r
      dsimp only at *
      go_wp2_with fail
      refine (shas_any x11 u _).mono ?_
      rintro e w1 ⟨rfl, rfl⟩
      cases hp : hasB x11 u
      · have HE : Hid ((L.take (k + 1)).filter (seeLV u) = M) := by unfold Hid; rw [HT.out, HS.out, hp]; simp
        clear hp HT HS
        go_wp2_with fail
        go_roundw
        case rel => exact ⟨k + 1, by omega, by go_num, by rw [HE.out]; exact HV.out, HB.out⟩
        case measure => simp [intOf]; omega
      · have HE : Hid ((L.take (k + 1)).filter (seeLV u) = M ++ [⟨x1, x2, x3, x4, x5, x6, x7, x8, x9, x10, x11⟩]) := by unfold Hid; rw [HT.out, HS.out, hp]; rfl
        clear hp HT HS
        have HV3 := Lib.hid (HV.out.alloc (.cells #[.int .i64 x1, .int .i64 x2, .int .i64 x3, .int .i64 x4, .int .u8 (x5.toNat : Int), .int .i64 x6, .int .i64 x7, .int .i64 x8, .int .i64 x9, .int .i64 x10, .int .u64 (x11.toNat : Int)] 88))
        have HI3 := Lib.hid (isOf_new (c := cellsLV) (n := 11) wr #[.int .i64 x1, .int .i64 x2, .int .i64 x3, .int .i64 x4, .int .u8 (x5.toNat : Int), .int .i64 x6, .int .i64 x7, .int .i64 x8, .int .i64 x9, .int .i64 x10, .int .u64 (x11.toNat : Int)] 88 ⟨x1, x2, x3, x4, x5, x6, x7, x8, x9, x10, x11⟩ rfl)
        have HZ3 : Hid (w.heap.size ≤ (wr.alloc (.cells #[.int .i64 x1, .int .i64 x2, .int .i64 x3, .int .i64 x4, .int .u8 (x5.toNat : Int), .int .i64 x6, .int .i64 x7, .int .i64 x8, .int .i64 x9, .int .i64 x10, .int .u64 (x11.toNat : Int)] 88)).heap.size) := by unfold Hid; rw [World.size_alloc]; have := HB.out.size; omega
        have HM3 : Hid ((M.length + 1) * 88 ≤ 140737488355328) := by unfold Hid; omega
        go_wp2_with (at_builtin; refine wpList_appOf rfl (.tmp 20) (.tmp 25) 72 rfl Try.underlying72 _ 88 infoLV zeroLV (by decide) (by decide) cellsLV_len cellsLV_one w.heap.size (.slice va M.length vc) M rfl HV3.out (some ⟨wr.heap.size, 0, none⟩) 1 1 [⟨x1, x2, x3, x4, x5, x6, x7, x8, x9, x10, x11⟩] rfl HI3.out HM3.out HZ3.out ?_)
        intro v4 w4 ho4 hb4
        have HO4 := Lib.hid ho4
        have HB4 := Lib.hid (Below.trans (HB.out.alloc HB.out.size _) hb4)
        clear ho4 hb4
        go_wp2_with fail
        go_roundw
        case rel => exact ⟨k + 1, by omega, by go_num, by rw [HE.out]; exact HO4.out, HB4.out⟩
        case measure => simp [intOf]; omega
    · obtain rfl : k = len := by omega
      have HT : Hid (L.take k = L) := List.take_of_length_le (by rw [HLL.out]; exact Nat.le_refl _)
      have hV : OwnLV w.heap.size wr (.slice va ((L.take k).filter (seeLV u)).length vc) (L.filter (seeLV u)) := by have := HV.out; rw [HT.out] at this ⊢; exact this
      have HV9 := Lib.hid hV
      clear hV
      go_wp2_with fail
      go_ret
      exact ⟨⟨_, rfl, HV9.out⟩, HB.out⟩
end Go.Proofs.Ytndijajaddkbhaa.Re
