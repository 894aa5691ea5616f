/- Merged: FuE LgA. -/
import Derived.Test.YtdhahiodnmmkeaaGreatDoorFuB
import Derived.Test.YtdhahiodnmmkeaaGreatDoorMgh
import Derived.Test.YtdhahiodnmmkeaaGreatDoorValXn
import Derived.Test.YtdhahiodnmmkeaaGreatDoorMgg
import Derived.Test.YtdhahiodnmmkeaaGreatDoorValR
import Derived.Test.YtdhahiodnmmkeaaGreatDoorTxtR
import Derived.Test.YtdhahiodnmmkeaaGreatDoorTxtE
import Derived.Test.YtdhahiodnmmkeaaGreatDoorMgi
import Derived.Test.YtdhahiodnmmkeaaGreatDoorValA
import Derived.ChangeArms
import Derived.DataShut
/- The reference's conversion of arguments. -/
namespace Go.Proofs.YtdhahiodnmmkeaaGreatDoor.Va
open Go Go.RowKit GM
set_option linter.unusedVariables false
set_option linter.unusedSimpArgs false
abbrev OwnN (B : Nat) (w : World) (v : Value) (L : List Int) : Prop := OwnOf 3 cellsW 1 B w v L
/-- What the reference's convert has gathered so far. -/
structure Cw (w wr : World) (u v : Value) (T : List ByteArray) (W : List Int) : Prop where
  f : B3 wr w.heap.size 0 0 ⟨#[]⟩
  t : OwnT (w.heap.size + 1) wr u T
  n : OwnN (w.heap.size + 1) wr v W
  b : Below w.heap.size w wr
theorem Cw.later {w wr w1 : World} {u v : Value} {T : List ByteArray} {W : List Int} (h : Cw w wr u v T W) (hB : Below wr.heap.size wr w1) : Cw w w1 u v T W :=
  ⟨h.f.later hB, OwnOf.later h.t hB, OwnOf.later h.n hB, vnext h.b hB⟩
/-- A block that is none of the lists'. -/
theorem Cw.other {w wr w1 : World} {u v : Value} {T : List ByteArray} {W : List Int} {q : Nat} (h : Cw w wr u v T W) (hg : wr.grownBy w1 (some q)) (hq : w.heap.size < q) (hu : ∀ g, u.ownBlock = some g → g ≠ q) (hv : ∀ g, v.ownBlock = some g → g ≠ q) : Cw w w1 u v T W :=
  ⟨h.f.grownB hg (fun e => by injection e with e; omega), World.ownsRow.kept h.t hg (.inr fun e => hu q e rfl), World.ownsRow.kept h.n hg (.inr fun e => hv q e rfl), h.b.grown hg h.b.size (fun p hp => by injection hp with hp; omega)⟩
theorem Cw.lt {w wr : World} {u v : Value} {T : List ByteArray} {W : List Int} (h : Cw w wr u v T W) : (∀ g, u.ownBlock = some g → g ≠ wr.heap.size) ∧ (∀ g, v.ownBlock = some g → g ≠ wr.heap.size) :=
  ⟨fun g e => by have := (World.ownsRow.lt h.t g e).2; omega, fun g e => by have := (World.ownsRow.lt h.n g e).2; omega⟩
end Go.Proofs.YtdhahiodnmmkeaaGreatDoor.Va
/- flogic: what it converts; failed, holds, converted of both sides. -/
namespace Go.Proofs.YtdhahiodnmmkeaaGreatDoor.Va
open Go Go.RowKit GM
set_option linter.unusedVariables false
set_option linter.unusedSimpArgs false
def cvl (fn i : Nat) (v : V3) : V3 :=
  if (21 ≤ fn ∧ fn ≤ 24) ∨ (fn = 20 ∧ i = 0) then cvR 2 v.1 v.2.1 v.2.2 else if fn = 30 ∧ i = 0 then cvR 1 v.1 v.2.1 v.2.2 else v
/-- The first of the arguments that is an error behind the conversion, or all of them converted. -/
def lgC (fn : Nat) : Nat → List V3 → List V3 → List V3 ⊕ V3
  | _, [], M => .inl M
  | i, v :: L, M => if (cvl fn i v).1 = 4 then .inr (cvl fn i v) else lgC fn (i + 1) L (M ++ [cvl fn i v])
theorem lgC_step {fn : Nat} {L : List V3} {k : Nat} (h : k < L.length) (M : List V3) : lgC fn k (L.drop k) M = if (cvl fn k L[k]).1 = 4 then .inr (cvl fn k L[k]) else lgC fn (k + 1) (L.drop (k + 1)) (M ++ [cvl fn k L[k]]) := by
  rw [List.drop_eq_getElem_cons h]; rfl
theorem lgC_end {fn : Nat} {L : List V3} {k : Nat} (h : L.length ≤ k) (M : List V3) : lgC fn k (L.drop k) M = .inl M := by
  rw [List.drop_of_length_le h]; rfl
theorem lgC_len {fn : Nat} : ∀ (L : List V3) (i : Nat) (M M' : List V3), lgC fn i L M = .inl M' → M'.length = M.length + L.length ∧ ∀ j (h : j < L.length), M'[M.length + j]? = some (cvl fn (i + j) L[j]) ∧ (cvl fn (i + j) L[j]).1 ≠ 4
  | [], i, M, M', h => by
    injection h with h; subst h
    exact ⟨rfl, fun j hj => by simp at hj⟩
  | v :: L, i, M, M', h => by
    have e : lgC fn i (v :: L) M = if (cvl fn i v).1 = 4 then .inr (cvl fn i v) else lgC fn (i + 1) L (M ++ [cvl fn i v]) := rfl
    rw [e] at h
    split at h
    · cases h
    · next h4 =>
      have hp := lgC_pre L (i + 1) _ M' h
      obtain ⟨h1, h2⟩ := lgC_len L _ _ M' h
      refine ⟨by rw [h1]; simp; omega, fun j hj => ?_⟩
      cases j with
      | zero => exact ⟨by rw [Nat.add_zero, hp M.length (by simp)]; simp, h4⟩
      | succ j =>
        have := h2 j (by simpa using hj)
        rw [List.length_append, List.length_singleton] at this
        rw [show M.length + (j + 1) = M.length + 1 + j by omega, show i + (j + 1) = i + 1 + j by omega]
        exact this
where lgC_pre : ∀ (L : List V3) (i : Nat) (M M' : List V3), lgC fn i L M = .inl M' → ∀ j, j < M.length → M'[j]? = M[j]?
  | [], i, M, M', h => by injection h with h; subst h; exact fun j _ => rfl
  | v :: L, i, M, M', h => by
    have e : lgC fn i (v :: L) M = if (cvl fn i v).1 = 4 then .inr (cvl fn i v) else lgC fn (i + 1) L (M ++ [cvl fn i v]) := rfl
    rw [e] at h
    split at h
    · cases h
    · intro j hj
      rw [lgC_pre L (i + 1) _ M' h j (by simp; omega), List.getElem?_append_left hj]
theorem failed_any (v : V3) (w : World) : Calls Tryz.prog 50 #[.agg #[.int .u8 (v.1 : Int), .int .i64 v.2.1, .string v.2.2]] w fun e w' => e = .returned (.bool (decide (v.1 = 4))) ∧ Below w.heap.size w w' := by
  by_cases h : v.1 = 4
  · have e1 : ((v.1 : Int) == 4) = true := by simp; omega
    have HD : Hid (decide (v.1 = 4) = true) := decide_eq_true h
    go_enter Tryz.func50, Tryz.ntmps50
    go_wp2_with fail
    go_ret
    exact ⟨by rw [HD.out]; first | done | rfl, valloc _ _⟩
  · have e1 : ((v.1 : Int) == 4) = false := by simp; omega
    have HD : Hid (decide (v.1 = 4) = false) := decide_eq_false h
    go_enter Tryz.func50, Tryz.ntmps50
    go_wp2_with fail
    go_ret
    exact ⟨by rw [HD.out]; first | done | rfl, valloc _ _⟩
theorem holds_any (v : V3) (w : World) : Calls Tryz.prog 98 #[.agg #[.int .u8 (v.1 : Int), .int .i64 v.2.1, .string v.2.2]] w fun e w' => e = .returned (.bool (decide (v.2.1 = 1))) ∧ Below w.heap.size w w' := by
  by_cases h : v.2.1 = 1
  · have e1 : (v.2.1 == 1) = true := by simp; omega
    have HD : Hid (decide (v.2.1 = 1) = true) := decide_eq_true h
    go_enter Tryz.func98, Tryz.ntmps98
    go_wp2_with fail
    go_ret
    exact ⟨by rw [HD.out]; first | done | rfl, valloc _ _⟩
  · have e1 : (v.2.1 == 1) = false := by simp; omega
    have HD : Hid (decide (v.2.1 = 1) = false) := decide_eq_false h
    go_enter Tryz.func98, Tryz.ntmps98
    go_wp2_with fail
    go_ret
    exact ⟨by rw [HD.out]; first | done | rfl, valloc _ _⟩
theorem pcv_20_0 (kd : Nat) (nm : Int) (tx : ByteArray) (hs : tx.size ≤ 2000) (hi : InI nm) (w : World) (hT : Tb w) : Calls Tryz.prog 92 #[.int .u8 20, .int .i64 0, .agg #[.int .u8 (kd : Int), .int .i64 nm, .string tx]] w fun e w' => e = .returned (vOf (cvR 2 kd nm tx)) ∧ Below w.heap.size w w' := by
  have hx := B3.start (w.alloc (.cells #[.int .u8 (kd : Int), .int .i64 nm, .string tx] 26)) 0 0 ⟨#[]⟩
  rw [World.size_alloc] at hx
  have HX : Hid (B3 ((w.alloc (.cells #[.int .u8 (kd : Int), .int .i64 nm, .string tx] 26)).alloc (.cells #[.int .u8 0, .int .i64 0, .string ⟨#[]⟩] 26)) (w.heap.size + 1) 0 0 ⟨#[]⟩) := hx
  have HV := Lib.hid ((B3.start w kd nm tx).later (valloc (w.alloc (.cells #[.int .u8 (kd : Int), .int .i64 nm, .string tx] 26)) (.cells #[.int .u8 0, .int .i64 0, .string ⟨#[]⟩] 26)))
  have HB := Lib.hid (vnext (valloc w (.cells #[.int .u8 (kd : Int), .int .i64 nm, .string tx] 26)) (valloc (w.alloc (.cells #[.int .u8 (kd : Int), .int .i64 nm, .string tx] 26)) (.cells #[.int .u8 0, .int .i64 0, .string ⟨#[]⟩] 26)))
  clear hx
  have HC := Lib.hid (fun W (hB : Below w.heap.size w W) => vto_bool kd nm tx hs hi W (hT.later hB))
  obtain ⟨⟨vk, vn, vs⟩, hr⟩ : ∃ r, cvR 2 kd nm tx = r := ⟨_, rfl⟩
  rw [hr] at HC
  have HE := Lib.hid hr
  dsimp only at HC
  clear hr hT
  go_enter Tryz.func92, Tryz.ntmps92
  go_upto_region 1 with fail
  generalize (w.alloc (.cells #[.int .u8 (kd : Int), .int .i64 nm, .string tx] 26)).alloc (.cells #[.int .u8 0, .int .i64 0, .string ⟨#[]⟩] 26) = wa at *
  obtain ⟨y0, y1, y2, _, _, _⟩ := HV.out.cells
  have hyl := HV.out.lt
  go_wp2_with fail
  refine (HC.out _ HB.out).mono ?_
  rintro e w1 ⟨rfl, hB⟩
  clear y0 y1 y2 hyl
  have hX : B3 w1 (w.heap.size + 1) 0 0 ⟨#[]⟩ := HX.out.later hB
  have HBW := Lib.hid (vnext HB.out hB)
  obtain ⟨x0, x1, x2, z0, z1, z2⟩ := hX.cells
  have hXl := hX.lt
  obtain ⟨hq, hg⟩ := b3_set hX vk vn vs
  have hb5 := HBW.out.grown hg HBW.out.size (fun q hq => by injection hq with hq; omega)
  clear hB hg
  go_wp2_with fail
  generalize ((w1.setCell ⟨(w.heap.size + 1), 0, none⟩ (.int .u8 (vk : Int))).setCell ⟨(w.heap.size + 1), 1, none⟩ (.int .i64 vn)).setCell ⟨(w.heap.size + 1), 2, none⟩ (.string vs) = w5 at *
  obtain ⟨y0, y1, y2, _, _, _⟩ := hq.cells
  refine bodyPost_ret (v := .agg #[.int .u8 (vk : Int), .int .i64 vn, .string vs]) (by simp [results, Tryz.results92, go_sem, y0, y1, y2]) rfl ⟨by rw [HE.out]; rfl, hb5⟩
theorem pcv_20_1 (i : Nat) (h0 : 0 < i) (kd : Nat) (nm : Int) (tx : ByteArray) (hs : tx.size ≤ 2000) (hi : InI nm) (w : World) (hT : Tb w) : Calls Tryz.prog 92 #[.int .u8 20, .int .i64 (i : Int), .agg #[.int .u8 (kd : Int), .int .i64 nm, .string tx]] w fun e w' => e = .returned (vOf (kd, nm, tx)) ∧ Below w.heap.size w w' := by
  have hx := B3.start (w.alloc (.cells #[.int .u8 (kd : Int), .int .i64 nm, .string tx] 26)) 0 0 ⟨#[]⟩
  rw [World.size_alloc] at hx
  have HX : Hid (B3 ((w.alloc (.cells #[.int .u8 (kd : Int), .int .i64 nm, .string tx] 26)).alloc (.cells #[.int .u8 0, .int .i64 0, .string ⟨#[]⟩] 26)) (w.heap.size + 1) 0 0 ⟨#[]⟩) := hx
  have HV := Lib.hid ((B3.start w kd nm tx).later (valloc (w.alloc (.cells #[.int .u8 (kd : Int), .int .i64 nm, .string tx] 26)) (.cells #[.int .u8 0, .int .i64 0, .string ⟨#[]⟩] 26)))
  have HB := Lib.hid (vnext (valloc w (.cells #[.int .u8 (kd : Int), .int .i64 nm, .string tx] 26)) (valloc (w.alloc (.cells #[.int .u8 (kd : Int), .int .i64 nm, .string tx] 26)) (.cells #[.int .u8 0, .int .i64 0, .string ⟨#[]⟩] 26)))
  clear hx
  have e0 : ((i : Int) == 0) = false := by simp; omega
  go_enter Tryz.func92, Tryz.ntmps92
  go_upto_region 1 with fail
  generalize (w.alloc (.cells #[.int .u8 (kd : Int), .int .i64 nm, .string tx] 26)).alloc (.cells #[.int .u8 0, .int .i64 0, .string ⟨#[]⟩] 26) = wa at *
  obtain ⟨y0, y1, y2, _, _, _⟩ := HV.out.cells
  have hyl := HV.out.lt
  have hB : Below wa.heap.size wa wa := Below.refl _ _
  have hX : B3 wa (w.heap.size + 1) 0 0 ⟨#[]⟩ := HX.out.later hB
  have HBW := Lib.hid (vnext HB.out hB)
  obtain ⟨x0, x1, x2, z0, z1, z2⟩ := hX.cells
  have hXl := hX.lt
  obtain ⟨hq, hg⟩ := b3_set hX kd nm tx
  have hb5 := HBW.out.grown hg HBW.out.size (fun q hq => by injection hq with hq; omega)
  clear hB hg
  go_wp2_with fail
  generalize ((wa.setCell ⟨(w.heap.size + 1), 0, none⟩ (.int .u8 (kd : Int))).setCell ⟨(w.heap.size + 1), 1, none⟩ (.int .i64 nm)).setCell ⟨(w.heap.size + 1), 2, none⟩ (.string tx) = w5 at *
  obtain ⟨y0, y1, y2, _, _, _⟩ := hq.cells
  refine bodyPost_ret (v := .agg #[.int .u8 (kd : Int), .int .i64 nm, .string tx]) (by simp [results, Tryz.results92, go_sem, y0, y1, y2]) rfl ⟨rfl, hb5⟩
theorem pcv_21 (i : Nat) (kd : Nat) (nm : Int) (tx : ByteArray) (hs : tx.size ≤ 2000) (hi : InI nm) (w : World) (hT : Tb w) : Calls Tryz.prog 92 #[.int .u8 21, .int .i64 (i : Int), .agg #[.int .u8 (kd : Int), .int .i64 nm, .string tx]] w fun e w' => e = .returned (vOf (cvR 2 kd nm tx)) ∧ Below w.heap.size w w' := by
  have hx := B3.start (w.alloc (.cells #[.int .u8 (kd : Int), .int .i64 nm, .string tx] 26)) 0 0 ⟨#[]⟩
  rw [World.size_alloc] at hx
  have HX : Hid (B3 ((w.alloc (.cells #[.int .u8 (kd : Int), .int .i64 nm, .string tx] 26)).alloc (.cells #[.int .u8 0, .int .i64 0, .string ⟨#[]⟩] 26)) (w.heap.size + 1) 0 0 ⟨#[]⟩) := hx
  have HV := Lib.hid ((B3.start w kd nm tx).later (valloc (w.alloc (.cells #[.int .u8 (kd : Int), .int .i64 nm, .string tx] 26)) (.cells #[.int .u8 0, .int .i64 0, .string ⟨#[]⟩] 26)))
  have HB := Lib.hid (vnext (valloc w (.cells #[.int .u8 (kd : Int), .int .i64 nm, .string tx] 26)) (valloc (w.alloc (.cells #[.int .u8 (kd : Int), .int .i64 nm, .string tx] 26)) (.cells #[.int .u8 0, .int .i64 0, .string ⟨#[]⟩] 26)))
  clear hx
  have HC := Lib.hid (fun W (hB : Below w.heap.size w W) => vto_bool kd nm tx hs hi W (hT.later hB))
  obtain ⟨⟨vk, vn, vs⟩, hr⟩ : ∃ r, cvR 2 kd nm tx = r := ⟨_, rfl⟩
  rw [hr] at HC
  have HE := Lib.hid hr
  dsimp only at HC
  clear hr hT
  go_enter Tryz.func92, Tryz.ntmps92
  go_upto_region 1 with fail
  generalize (w.alloc (.cells #[.int .u8 (kd : Int), .int .i64 nm, .string tx] 26)).alloc (.cells #[.int .u8 0, .int .i64 0, .string ⟨#[]⟩] 26) = wa at *
  obtain ⟨y0, y1, y2, _, _, _⟩ := HV.out.cells
  have hyl := HV.out.lt
  go_wp2_with fail
  refine (HC.out _ HB.out).mono ?_
  rintro e w1 ⟨rfl, hB⟩
  clear y0 y1 y2 hyl
  have hX : B3 w1 (w.heap.size + 1) 0 0 ⟨#[]⟩ := HX.out.later hB
  have HBW := Lib.hid (vnext HB.out hB)
  obtain ⟨x0, x1, x2, z0, z1, z2⟩ := hX.cells
  have hXl := hX.lt
  obtain ⟨hq, hg⟩ := b3_set hX vk vn vs
  have hb5 := HBW.out.grown hg HBW.out.size (fun q hq => by injection hq with hq; omega)
  clear hB hg
  go_wp2_with fail
  generalize ((w1.setCell ⟨(w.heap.size + 1), 0, none⟩ (.int .u8 (vk : Int))).setCell ⟨(w.heap.size + 1), 1, none⟩ (.int .i64 vn)).setCell ⟨(w.heap.size + 1), 2, none⟩ (.string vs) = w5 at *
  obtain ⟨y0, y1, y2, _, _, _⟩ := hq.cells
  refine bodyPost_ret (v := .agg #[.int .u8 (vk : Int), .int .i64 vn, .string vs]) (by simp [results, Tryz.results92, go_sem, y0, y1, y2]) rfl ⟨by rw [HE.out]; rfl, hb5⟩
theorem pcv_22 (i : Nat) (kd : Nat) (nm : Int) (tx : ByteArray) (hs : tx.size ≤ 2000) (hi : InI nm) (w : World) (hT : Tb w) : Calls Tryz.prog 92 #[.int .u8 22, .int .i64 (i : Int), .agg #[.int .u8 (kd : Int), .int .i64 nm, .string tx]] w fun e w' => e = .returned (vOf (cvR 2 kd nm tx)) ∧ Below w.heap.size w w' := by
  have hx := B3.start (w.alloc (.cells #[.int .u8 (kd : Int), .int .i64 nm, .string tx] 26)) 0 0 ⟨#[]⟩
  rw [World.size_alloc] at hx
  have HX : Hid (B3 ((w.alloc (.cells #[.int .u8 (kd : Int), .int .i64 nm, .string tx] 26)).alloc (.cells #[.int .u8 0, .int .i64 0, .string ⟨#[]⟩] 26)) (w.heap.size + 1) 0 0 ⟨#[]⟩) := hx
  have HV := Lib.hid ((B3.start w kd nm tx).later (valloc (w.alloc (.cells #[.int .u8 (kd : Int), .int .i64 nm, .string tx] 26)) (.cells #[.int .u8 0, .int .i64 0, .string ⟨#[]⟩] 26)))
  have HB := Lib.hid (vnext (valloc w (.cells #[.int .u8 (kd : Int), .int .i64 nm, .string tx] 26)) (valloc (w.alloc (.cells #[.int .u8 (kd : Int), .int .i64 nm, .string tx] 26)) (.cells #[.int .u8 0, .int .i64 0, .string ⟨#[]⟩] 26)))
  clear hx
  have HC := Lib.hid (fun W (hB : Below w.heap.size w W) => vto_bool kd nm tx hs hi W (hT.later hB))
  obtain ⟨⟨vk, vn, vs⟩, hr⟩ : ∃ r, cvR 2 kd nm tx = r := ⟨_, rfl⟩
  rw [hr] at HC
  have HE := Lib.hid hr
  dsimp only at HC
  clear hr hT
  go_enter Tryz.func92, Tryz.ntmps92
  go_upto_region 1 with fail
  generalize (w.alloc (.cells #[.int .u8 (kd : Int), .int .i64 nm, .string tx] 26)).alloc (.cells #[.int .u8 0, .int .i64 0, .string ⟨#[]⟩] 26) = wa at *
  obtain ⟨y0, y1, y2, _, _, _⟩ := HV.out.cells
  have hyl := HV.out.lt
  go_wp2_with fail
  refine (HC.out _ HB.out).mono ?_
  rintro e w1 ⟨rfl, hB⟩
  clear y0 y1 y2 hyl
  have hX : B3 w1 (w.heap.size + 1) 0 0 ⟨#[]⟩ := HX.out.later hB
  have HBW := Lib.hid (vnext HB.out hB)
  obtain ⟨x0, x1, x2, z0, z1, z2⟩ := hX.cells
  have hXl := hX.lt
  obtain ⟨hq, hg⟩ := b3_set hX vk vn vs
  have hb5 := HBW.out.grown hg HBW.out.size (fun q hq => by injection hq with hq; omega)
  clear hB hg
  go_wp2_with fail
  generalize ((w1.setCell ⟨(w.heap.size + 1), 0, none⟩ (.int .u8 (vk : Int))).setCell ⟨(w.heap.size + 1), 1, none⟩ (.int .i64 vn)).setCell ⟨(w.heap.size + 1), 2, none⟩ (.string vs) = w5 at *
  obtain ⟨y0, y1, y2, _, _, _⟩ := hq.cells
  refine bodyPost_ret (v := .agg #[.int .u8 (vk : Int), .int .i64 vn, .string vs]) (by simp [results, Tryz.results92, go_sem, y0, y1, y2]) rfl ⟨by rw [HE.out]; rfl, hb5⟩
theorem pcv_23 (i : Nat) (kd : Nat) (nm : Int) (tx : ByteArray) (hs : tx.size ≤ 2000) (hi : InI nm) (w : World) (hT : Tb w) : Calls Tryz.prog 92 #[.int .u8 23, .int .i64 (i : Int), .agg #[.int .u8 (kd : Int), .int .i64 nm, .string tx]] w fun e w' => e = .returned (vOf (cvR 2 kd nm tx)) ∧ Below w.heap.size w w' := by
  have hx := B3.start (w.alloc (.cells #[.int .u8 (kd : Int), .int .i64 nm, .string tx] 26)) 0 0 ⟨#[]⟩
  rw [World.size_alloc] at hx
  have HX : Hid (B3 ((w.alloc (.cells #[.int .u8 (kd : Int), .int .i64 nm, .string tx] 26)).alloc (.cells #[.int .u8 0, .int .i64 0, .string ⟨#[]⟩] 26)) (w.heap.size + 1) 0 0 ⟨#[]⟩) := hx
  have HV := Lib.hid ((B3.start w kd nm tx).later (valloc (w.alloc (.cells #[.int .u8 (kd : Int), .int .i64 nm, .string tx] 26)) (.cells #[.int .u8 0, .int .i64 0, .string ⟨#[]⟩] 26)))
  have HB := Lib.hid (vnext (valloc w (.cells #[.int .u8 (kd : Int), .int .i64 nm, .string tx] 26)) (valloc (w.alloc (.cells #[.int .u8 (kd : Int), .int .i64 nm, .string tx] 26)) (.cells #[.int .u8 0, .int .i64 0, .string ⟨#[]⟩] 26)))
  clear hx
  have HC := Lib.hid (fun W (hB : Below w.heap.size w W) => vto_bool kd nm tx hs hi W (hT.later hB))
  obtain ⟨⟨vk, vn, vs⟩, hr⟩ : ∃ r, cvR 2 kd nm tx = r := ⟨_, rfl⟩
  rw [hr] at HC
  have HE := Lib.hid hr
  dsimp only at HC
  clear hr hT
  go_enter Tryz.func92, Tryz.ntmps92
  go_upto_region 1 with fail
  generalize (w.alloc (.cells #[.int .u8 (kd : Int), .int .i64 nm, .string tx] 26)).alloc (.cells #[.int .u8 0, .int .i64 0, .string ⟨#[]⟩] 26) = wa at *
  obtain ⟨y0, y1, y2, _, _, _⟩ := HV.out.cells
  have hyl := HV.out.lt
  go_wp2_with fail
  refine (HC.out _ HB.out).mono ?_
  rintro e w1 ⟨rfl, hB⟩
  clear y0 y1 y2 hyl
  have hX : B3 w1 (w.heap.size + 1) 0 0 ⟨#[]⟩ := HX.out.later hB
  have HBW := Lib.hid (vnext HB.out hB)
  obtain ⟨x0, x1, x2, z0, z1, z2⟩ := hX.cells
  have hXl := hX.lt
  obtain ⟨hq, hg⟩ := b3_set hX vk vn vs
  have hb5 := HBW.out.grown hg HBW.out.size (fun q hq => by injection hq with hq; omega)
  clear hB hg
  go_wp2_with fail
  generalize ((w1.setCell ⟨(w.heap.size + 1), 0, none⟩ (.int .u8 (vk : Int))).setCell ⟨(w.heap.size + 1), 1, none⟩ (.int .i64 vn)).setCell ⟨(w.heap.size + 1), 2, none⟩ (.string vs) = w5 at *
  obtain ⟨y0, y1, y2, _, _, _⟩ := hq.cells
  refine bodyPost_ret (v := .agg #[.int .u8 (vk : Int), .int .i64 vn, .string vs]) (by simp [results, Tryz.results92, go_sem, y0, y1, y2]) rfl ⟨by rw [HE.out]; rfl, hb5⟩
theorem pcv_24 (i : Nat) (kd : Nat) (nm : Int) (tx : ByteArray) (hs : tx.size ≤ 2000) (hi : InI nm) (w : World) (hT : Tb w) : Calls Tryz.prog 92 #[.int .u8 24, .int .i64 (i : Int), .agg #[.int .u8 (kd : Int), .int .i64 nm, .string tx]] w fun e w' => e = .returned (vOf (cvR 2 kd nm tx)) ∧ Below w.heap.size w w' := by
  have hx := B3.start (w.alloc (.cells #[.int .u8 (kd : Int), .int .i64 nm, .string tx] 26)) 0 0 ⟨#[]⟩
  rw [World.size_alloc] at hx
  have HX : Hid (B3 ((w.alloc (.cells #[.int .u8 (kd : Int), .int .i64 nm, .string tx] 26)).alloc (.cells #[.int .u8 0, .int .i64 0, .string ⟨#[]⟩] 26)) (w.heap.size + 1) 0 0 ⟨#[]⟩) := hx
  have HV := Lib.hid ((B3.start w kd nm tx).later (valloc (w.alloc (.cells #[.int .u8 (kd : Int), .int .i64 nm, .string tx] 26)) (.cells #[.int .u8 0, .int .i64 0, .string ⟨#[]⟩] 26)))
  have HB := Lib.hid (vnext (valloc w (.cells #[.int .u8 (kd : Int), .int .i64 nm, .string tx] 26)) (valloc (w.alloc (.cells #[.int .u8 (kd : Int), .int .i64 nm, .string tx] 26)) (.cells #[.int .u8 0, .int .i64 0, .string ⟨#[]⟩] 26)))
  clear hx
  have HC := Lib.hid (fun W (hB : Below w.heap.size w W) => vto_bool kd nm tx hs hi W (hT.later hB))
  obtain ⟨⟨vk, vn, vs⟩, hr⟩ : ∃ r, cvR 2 kd nm tx = r := ⟨_, rfl⟩
  rw [hr] at HC
  have HE := Lib.hid hr
  dsimp only at HC
  clear hr hT
  go_enter Tryz.func92, Tryz.ntmps92
  go_upto_region 1 with fail
  generalize (w.alloc (.cells #[.int .u8 (kd : Int), .int .i64 nm, .string tx] 26)).alloc (.cells #[.int .u8 0, .int .i64 0, .string ⟨#[]⟩] 26) = wa at *
  obtain ⟨y0, y1, y2, _, _, _⟩ := HV.out.cells
  have hyl := HV.out.lt
  go_wp2_with fail
  refine (HC.out _ HB.out).mono ?_
  rintro e w1 ⟨rfl, hB⟩
  clear y0 y1 y2 hyl
  have hX : B3 w1 (w.heap.size + 1) 0 0 ⟨#[]⟩ := HX.out.later hB
  have HBW := Lib.hid (vnext HB.out hB)
  obtain ⟨x0, x1, x2, z0, z1, z2⟩ := hX.cells
  have hXl := hX.lt
  obtain ⟨hq, hg⟩ := b3_set hX vk vn vs
  have hb5 := HBW.out.grown hg HBW.out.size (fun q hq => by injection hq with hq; omega)
  clear hB hg
  go_wp2_with fail
  generalize ((w1.setCell ⟨(w.heap.size + 1), 0, none⟩ (.int .u8 (vk : Int))).setCell ⟨(w.heap.size + 1), 1, none⟩ (.int .i64 vn)).setCell ⟨(w.heap.size + 1), 2, none⟩ (.string vs) = w5 at *
  obtain ⟨y0, y1, y2, _, _, _⟩ := hq.cells
  refine bodyPost_ret (v := .agg #[.int .u8 (vk : Int), .int .i64 vn, .string vs]) (by simp [results, Tryz.results92, go_sem, y0, y1, y2]) rfl ⟨by rw [HE.out]; rfl, hb5⟩
theorem pcv_27 (i : Nat) (kd : Nat) (nm : Int) (tx : ByteArray) (hs : tx.size ≤ 2000) (hi : InI nm) (w : World) (hT : Tb w) : Calls Tryz.prog 92 #[.int .u8 27, .int .i64 (i : Int), .agg #[.int .u8 (kd : Int), .int .i64 nm, .string tx]] w fun e w' => e = .returned (vOf (kd, nm, tx)) ∧ Below w.heap.size w w' := by
  have hx := B3.start (w.alloc (.cells #[.int .u8 (kd : Int), .int .i64 nm, .string tx] 26)) 0 0 ⟨#[]⟩
  rw [World.size_alloc] at hx
  have HX : Hid (B3 ((w.alloc (.cells #[.int .u8 (kd : Int), .int .i64 nm, .string tx] 26)).alloc (.cells #[.int .u8 0, .int .i64 0, .string ⟨#[]⟩] 26)) (w.heap.size + 1) 0 0 ⟨#[]⟩) := hx
  have HV := Lib.hid ((B3.start w kd nm tx).later (valloc (w.alloc (.cells #[.int .u8 (kd : Int), .int .i64 nm, .string tx] 26)) (.cells #[.int .u8 0, .int .i64 0, .string ⟨#[]⟩] 26)))
  have HB := Lib.hid (vnext (valloc w (.cells #[.int .u8 (kd : Int), .int .i64 nm, .string tx] 26)) (valloc (w.alloc (.cells #[.int .u8 (kd : Int), .int .i64 nm, .string tx] 26)) (.cells #[.int .u8 0, .int .i64 0, .string ⟨#[]⟩] 26)))
  clear hx
  go_enter Tryz.func92, Tryz.ntmps92
  go_upto_region 1 with fail
  generalize (w.alloc (.cells #[.int .u8 (kd : Int), .int .i64 nm, .string tx] 26)).alloc (.cells #[.int .u8 0, .int .i64 0, .string ⟨#[]⟩] 26) = wa at *
  obtain ⟨y0, y1, y2, _, _, _⟩ := HV.out.cells
  have hyl := HV.out.lt
  have hB : Below wa.heap.size wa wa := Below.refl _ _
  have hX : B3 wa (w.heap.size + 1) 0 0 ⟨#[]⟩ := HX.out.later hB
  have HBW := Lib.hid (vnext HB.out hB)
  obtain ⟨x0, x1, x2, z0, z1, z2⟩ := hX.cells
  have hXl := hX.lt
  obtain ⟨hq, hg⟩ := b3_set hX kd nm tx
  have hb5 := HBW.out.grown hg HBW.out.size (fun q hq => by injection hq with hq; omega)
  clear hB hg
  go_wp2_with fail
  generalize ((wa.setCell ⟨(w.heap.size + 1), 0, none⟩ (.int .u8 (kd : Int))).setCell ⟨(w.heap.size + 1), 1, none⟩ (.int .i64 nm)).setCell ⟨(w.heap.size + 1), 2, none⟩ (.string tx) = w5 at *
  obtain ⟨y0, y1, y2, _, _, _⟩ := hq.cells
  refine bodyPost_ret (v := .agg #[.int .u8 (kd : Int), .int .i64 nm, .string tx]) (by simp [results, Tryz.results92, go_sem, y0, y1, y2]) rfl ⟨rfl, hb5⟩
theorem pcv_28 (i : Nat) (kd : Nat) (nm : Int) (tx : ByteArray) (hs : tx.size ≤ 2000) (hi : InI nm) (w : World) (hT : Tb w) : Calls Tryz.prog 92 #[.int .u8 28, .int .i64 (i : Int), .agg #[.int .u8 (kd : Int), .int .i64 nm, .string tx]] w fun e w' => e = .returned (vOf (kd, nm, tx)) ∧ Below w.heap.size w w' := by
  have hx := B3.start (w.alloc (.cells #[.int .u8 (kd : Int), .int .i64 nm, .string tx] 26)) 0 0 ⟨#[]⟩
  rw [World.size_alloc] at hx
  have HX : Hid (B3 ((w.alloc (.cells #[.int .u8 (kd : Int), .int .i64 nm, .string tx] 26)).alloc (.cells #[.int .u8 0, .int .i64 0, .string ⟨#[]⟩] 26)) (w.heap.size + 1) 0 0 ⟨#[]⟩) := hx
  have HV := Lib.hid ((B3.start w kd nm tx).later (valloc (w.alloc (.cells #[.int .u8 (kd : Int), .int .i64 nm, .string tx] 26)) (.cells #[.int .u8 0, .int .i64 0, .string ⟨#[]⟩] 26)))
  have HB := Lib.hid (vnext (valloc w (.cells #[.int .u8 (kd : Int), .int .i64 nm, .string tx] 26)) (valloc (w.alloc (.cells #[.int .u8 (kd : Int), .int .i64 nm, .string tx] 26)) (.cells #[.int .u8 0, .int .i64 0, .string ⟨#[]⟩] 26)))
  clear hx
  go_enter Tryz.func92, Tryz.ntmps92
  go_upto_region 1 with fail
  generalize (w.alloc (.cells #[.int .u8 (kd : Int), .int .i64 nm, .string tx] 26)).alloc (.cells #[.int .u8 0, .int .i64 0, .string ⟨#[]⟩] 26) = wa at *
  obtain ⟨y0, y1, y2, _, _, _⟩ := HV.out.cells
  have hyl := HV.out.lt
  have hB : Below wa.heap.size wa wa := Below.refl _ _
  have hX : B3 wa (w.heap.size + 1) 0 0 ⟨#[]⟩ := HX.out.later hB
  have HBW := Lib.hid (vnext HB.out hB)
  obtain ⟨x0, x1, x2, z0, z1, z2⟩ := hX.cells
  have hXl := hX.lt
  obtain ⟨hq, hg⟩ := b3_set hX kd nm tx
  have hb5 := HBW.out.grown hg HBW.out.size (fun q hq => by injection hq with hq; omega)
  clear hB hg
  go_wp2_with fail
  generalize ((wa.setCell ⟨(w.heap.size + 1), 0, none⟩ (.int .u8 (kd : Int))).setCell ⟨(w.heap.size + 1), 1, none⟩ (.int .i64 nm)).setCell ⟨(w.heap.size + 1), 2, none⟩ (.string tx) = w5 at *
  obtain ⟨y0, y1, y2, _, _, _⟩ := hq.cells
  refine bodyPost_ret (v := .agg #[.int .u8 (kd : Int), .int .i64 nm, .string tx]) (by simp [results, Tryz.results92, go_sem, y0, y1, y2]) rfl ⟨rfl, hb5⟩
theorem pcv_29 (i : Nat) (kd : Nat) (nm : Int) (tx : ByteArray) (hs : tx.size ≤ 2000) (hi : InI nm) (w : World) (hT : Tb w) : Calls Tryz.prog 92 #[.int .u8 29, .int .i64 (i : Int), .agg #[.int .u8 (kd : Int), .int .i64 nm, .string tx]] w fun e w' => e = .returned (vOf (kd, nm, tx)) ∧ Below w.heap.size w w' := by
  have hx := B3.start (w.alloc (.cells #[.int .u8 (kd : Int), .int .i64 nm, .string tx] 26)) 0 0 ⟨#[]⟩
  rw [World.size_alloc] at hx
  have HX : Hid (B3 ((w.alloc (.cells #[.int .u8 (kd : Int), .int .i64 nm, .string tx] 26)).alloc (.cells #[.int .u8 0, .int .i64 0, .string ⟨#[]⟩] 26)) (w.heap.size + 1) 0 0 ⟨#[]⟩) := hx
  have HV := Lib.hid ((B3.start w kd nm tx).later (valloc (w.alloc (.cells #[.int .u8 (kd : Int), .int .i64 nm, .string tx] 26)) (.cells #[.int .u8 0, .int .i64 0, .string ⟨#[]⟩] 26)))
  have HB := Lib.hid (vnext (valloc w (.cells #[.int .u8 (kd : Int), .int .i64 nm, .string tx] 26)) (valloc (w.alloc (.cells #[.int .u8 (kd : Int), .int .i64 nm, .string tx] 26)) (.cells #[.int .u8 0, .int .i64 0, .string ⟨#[]⟩] 26)))
  clear hx
  go_enter Tryz.func92, Tryz.ntmps92
  go_upto_region 1 with fail
  generalize (w.alloc (.cells #[.int .u8 (kd : Int), .int .i64 nm, .string tx] 26)).alloc (.cells #[.int .u8 0, .int .i64 0, .string ⟨#[]⟩] 26) = wa at *
  obtain ⟨y0, y1, y2, _, _, _⟩ := HV.out.cells
  have hyl := HV.out.lt
  have hB : Below wa.heap.size wa wa := Below.refl _ _
  have hX : B3 wa (w.heap.size + 1) 0 0 ⟨#[]⟩ := HX.out.later hB
  have HBW := Lib.hid (vnext HB.out hB)
  obtain ⟨x0, x1, x2, z0, z1, z2⟩ := hX.cells
  have hXl := hX.lt
  obtain ⟨hq, hg⟩ := b3_set hX kd nm tx
  have hb5 := HBW.out.grown hg HBW.out.size (fun q hq => by injection hq with hq; omega)
  clear hB hg
  go_wp2_with fail
  generalize ((wa.setCell ⟨(w.heap.size + 1), 0, none⟩ (.int .u8 (kd : Int))).setCell ⟨(w.heap.size + 1), 1, none⟩ (.int .i64 nm)).setCell ⟨(w.heap.size + 1), 2, none⟩ (.string tx) = w5 at *
  obtain ⟨y0, y1, y2, _, _, _⟩ := hq.cells
  refine bodyPost_ret (v := .agg #[.int .u8 (kd : Int), .int .i64 nm, .string tx]) (by simp [results, Tryz.results92, go_sem, y0, y1, y2]) rfl ⟨rfl, hb5⟩
theorem pcv_30_0 (kd : Nat) (nm : Int) (tx : ByteArray) (hs : tx.size ≤ 2000) (hi : InI nm) (w : World) (hT : Tb w) : Calls Tryz.prog 92 #[.int .u8 30, .int .i64 0, .agg #[.int .u8 (kd : Int), .int .i64 nm, .string tx]] w fun e w' => e = .returned (vOf (cvR 1 kd nm tx)) ∧ Below w.heap.size w w' := by
  have hx := B3.start (w.alloc (.cells #[.int .u8 (kd : Int), .int .i64 nm, .string tx] 26)) 0 0 ⟨#[]⟩
  rw [World.size_alloc] at hx
  have HX : Hid (B3 ((w.alloc (.cells #[.int .u8 (kd : Int), .int .i64 nm, .string tx] 26)).alloc (.cells #[.int .u8 0, .int .i64 0, .string ⟨#[]⟩] 26)) (w.heap.size + 1) 0 0 ⟨#[]⟩) := hx
  have HV := Lib.hid ((B3.start w kd nm tx).later (valloc (w.alloc (.cells #[.int .u8 (kd : Int), .int .i64 nm, .string tx] 26)) (.cells #[.int .u8 0, .int .i64 0, .string ⟨#[]⟩] 26)))
  have HB := Lib.hid (vnext (valloc w (.cells #[.int .u8 (kd : Int), .int .i64 nm, .string tx] 26)) (valloc (w.alloc (.cells #[.int .u8 (kd : Int), .int .i64 nm, .string tx] 26)) (.cells #[.int .u8 0, .int .i64 0, .string ⟨#[]⟩] 26)))
  clear hx
  have HC := Lib.hid (fun W (hB : Below w.heap.size w W) => vto_num kd nm tx hs hi W (hT.later hB))
  obtain ⟨⟨vk, vn, vs⟩, hr⟩ : ∃ r, cvR 1 kd nm tx = r := ⟨_, rfl⟩
  rw [hr] at HC
  have HE := Lib.hid hr
  dsimp only at HC
  clear hr hT
  go_enter Tryz.func92, Tryz.ntmps92
  go_upto_region 1 with fail
  generalize (w.alloc (.cells #[.int .u8 (kd : Int), .int .i64 nm, .string tx] 26)).alloc (.cells #[.int .u8 0, .int .i64 0, .string ⟨#[]⟩] 26) = wa at *
  obtain ⟨y0, y1, y2, _, _, _⟩ := HV.out.cells
  have hyl := HV.out.lt
  go_wp2_with fail
  refine (HC.out _ HB.out).mono ?_
  rintro e w1 ⟨rfl, hB⟩
  clear y0 y1 y2 hyl
  have hX : B3 w1 (w.heap.size + 1) 0 0 ⟨#[]⟩ := HX.out.later hB
  have HBW := Lib.hid (vnext HB.out hB)
  obtain ⟨x0, x1, x2, z0, z1, z2⟩ := hX.cells
  have hXl := hX.lt
  obtain ⟨hq, hg⟩ := b3_set hX vk vn vs
  have hb5 := HBW.out.grown hg HBW.out.size (fun q hq => by injection hq with hq; omega)
  clear hB hg
  go_wp2_with fail
  generalize ((w1.setCell ⟨(w.heap.size + 1), 0, none⟩ (.int .u8 (vk : Int))).setCell ⟨(w.heap.size + 1), 1, none⟩ (.int .i64 vn)).setCell ⟨(w.heap.size + 1), 2, none⟩ (.string vs) = w5 at *
  obtain ⟨y0, y1, y2, _, _, _⟩ := hq.cells
  refine bodyPost_ret (v := .agg #[.int .u8 (vk : Int), .int .i64 vn, .string vs]) (by simp [results, Tryz.results92, go_sem, y0, y1, y2]) rfl ⟨by rw [HE.out]; rfl, hb5⟩
theorem pcv_30_1 (i : Nat) (h0 : 0 < i) (kd : Nat) (nm : Int) (tx : ByteArray) (hs : tx.size ≤ 2000) (hi : InI nm) (w : World) (hT : Tb w) : Calls Tryz.prog 92 #[.int .u8 30, .int .i64 (i : Int), .agg #[.int .u8 (kd : Int), .int .i64 nm, .string tx]] w fun e w' => e = .returned (vOf (kd, nm, tx)) ∧ Below w.heap.size w w' := by
  have hx := B3.start (w.alloc (.cells #[.int .u8 (kd : Int), .int .i64 nm, .string tx] 26)) 0 0 ⟨#[]⟩
  rw [World.size_alloc] at hx
  have HX : Hid (B3 ((w.alloc (.cells #[.int .u8 (kd : Int), .int .i64 nm, .string tx] 26)).alloc (.cells #[.int .u8 0, .int .i64 0, .string ⟨#[]⟩] 26)) (w.heap.size + 1) 0 0 ⟨#[]⟩) := hx
  have HV := Lib.hid ((B3.start w kd nm tx).later (valloc (w.alloc (.cells #[.int .u8 (kd : Int), .int .i64 nm, .string tx] 26)) (.cells #[.int .u8 0, .int .i64 0, .string ⟨#[]⟩] 26)))
  have HB := Lib.hid (vnext (valloc w (.cells #[.int .u8 (kd : Int), .int .i64 nm, .string tx] 26)) (valloc (w.alloc (.cells #[.int .u8 (kd : Int), .int .i64 nm, .string tx] 26)) (.cells #[.int .u8 0, .int .i64 0, .string ⟨#[]⟩] 26)))
  clear hx
  have e0 : ((i : Int) == 0) = false := by simp; omega
  go_enter Tryz.func92, Tryz.ntmps92
  go_upto_region 1 with fail
  generalize (w.alloc (.cells #[.int .u8 (kd : Int), .int .i64 nm, .string tx] 26)).alloc (.cells #[.int .u8 0, .int .i64 0, .string ⟨#[]⟩] 26) = wa at *
  obtain ⟨y0, y1, y2, _, _, _⟩ := HV.out.cells
  have hyl := HV.out.lt
  have hB : Below wa.heap.size wa wa := Below.refl _ _
  have hX : B3 wa (w.heap.size + 1) 0 0 ⟨#[]⟩ := HX.out.later hB
  have HBW := Lib.hid (vnext HB.out hB)
  obtain ⟨x0, x1, x2, z0, z1, z2⟩ := hX.cells
  have hXl := hX.lt
  obtain ⟨hq, hg⟩ := b3_set hX kd nm tx
  have hb5 := HBW.out.grown hg HBW.out.size (fun q hq => by injection hq with hq; omega)
  clear hB hg
  go_wp2_with fail
  generalize ((wa.setCell ⟨(w.heap.size + 1), 0, none⟩ (.int .u8 (kd : Int))).setCell ⟨(w.heap.size + 1), 1, none⟩ (.int .i64 nm)).setCell ⟨(w.heap.size + 1), 2, none⟩ (.string tx) = w5 at *
  obtain ⟨y0, y1, y2, _, _, _⟩ := hq.cells
  refine bodyPost_ret (v := .agg #[.int .u8 (kd : Int), .int .i64 nm, .string tx]) (by simp [results, Tryz.results92, go_sem, y0, y1, y2]) rfl ⟨rfl, hb5⟩
theorem pconv_any (fn : Nat) (hf : fn = 20 ∨ fn = 21 ∨ fn = 22 ∨ fn = 23 ∨ fn = 24 ∨ fn = 27 ∨ fn = 28 ∨ fn = 29 ∨ fn = 30) (i : Nat) (v : V3) (hs : v.2.2.size ≤ 2000) (hi : InI v.2.1) (w : World) (hT : Tb w) : Calls Tryz.prog 92 #[.int .u8 (fn : Int), .int .i64 (i : Int), .agg #[.int .u8 (v.1 : Int), .int .i64 v.2.1, .string v.2.2]] w fun e w' => e = .returned (vOf (cvl fn i v)) ∧ Below w.heap.size w w' := by
  obtain rfl | rfl | rfl | rfl | rfl | rfl | rfl | rfl | rfl := hf
  ·
    by_cases hi0 : i = 0
    · subst hi0
      exact pcv_20_0 v.1 v.2.1 v.2.2 hs hi w hT
    · have e : cvl 20 i v = v := by unfold cvl; simp [hi0]
      rw [e]
      exact pcv_20_1 i (by omega) v.1 v.2.1 v.2.2 hs hi w hT
  ·
    exact pcv_21 i v.1 v.2.1 v.2.2 hs hi w hT
  ·
    exact pcv_22 i v.1 v.2.1 v.2.2 hs hi w hT
  ·
    exact pcv_23 i v.1 v.2.1 v.2.2 hs hi w hT
  ·
    exact pcv_24 i v.1 v.2.1 v.2.2 hs hi w hT
  ·
    exact pcv_27 i v.1 v.2.1 v.2.2 hs hi w hT
  ·
    exact pcv_28 i v.1 v.2.1 v.2.2 hs hi w hT
  ·
    exact pcv_29 i v.1 v.2.1 v.2.2 hs hi w hT
  ·
    by_cases hi0 : i = 0
    · subst hi0
      exact pcv_30_0 v.1 v.2.1 v.2.2 hs hi w hT
    · have e : cvl 30 i v = v := by unfold cvl; simp [hi0]
      rw [e]
      exact pcv_30_1 i (by omega) v.1 v.2.1 v.2.2 hs hi w hT
end Go.Proofs.YtdhahiodnmmkeaaGreatDoor.Va
