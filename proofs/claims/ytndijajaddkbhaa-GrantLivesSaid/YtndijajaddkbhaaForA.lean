/- The live grants of a kind, one after another: the iterator's contract. -/
import Derived.Test.YtndijajaddkbhaaMgrp
import Derived.Test.YtndijajaddkbhaaGraC
namespace Go.Proofs.Ytndijajaddkbhaa.Re
open Go Go.RowKit Go.Shelf AM
attribute [local go_sem] Oper.semAt_some
def kindB (r : R4) (f : Nat) (g : GV) : Bool := decide (g.c1 = r.c1 ∧ g.r1 = r.r1 ∧ g.c2 = r.c2 ∧ g.r2 = r.r2) && nmB g.fns f
set_option maxHeartbeats 1600000 in
theorem kind1_any (r1 r2 r3 r4 : Int) (f : Nat) (hf : f < 256) (g : GV) (rb fb : Nat) (w : World) (hR : Four w rb r1 r2 r3 r4) (hfb : fb < w.heap.size) (hF : w.cell? ⟨fb, 0, none⟩ = some (.int .u8 (f : Int))) :
    Calls Try.prog 78 #[.agg (cells8 g).toArray, .pointer (some ⟨rb, 0, none⟩), .pointer (some ⟨fb, 0, none⟩)] w fun e w' => e = .returned (.bool (kindB ⟨r1, r2, r3, r4⟩ f g)) ∧ Below w.heap.size w w' := by
  have HB := Lib.hid (below_alloc w (.cells (cells8 g).toArray 68))
  have HK : Hid (kindB ⟨r1, r2, r3, r4⟩ f g = (decide (g.c1 = r1 ∧ g.r1 = r2 ∧ g.c2 = r3 ∧ g.r2 = r4) && nmB g.fns f)) := rfl
  obtain ⟨hrb, k1, k2, k3, k4⟩ := hR
  obtain ⟨x1, x2, x3, x4, x5, x6, x7, x8⟩ := g
  unfold cells8 at *
  dsimp only at *
  by_cases h : x1 = r1 ∧ x2 = r2 ∧ x3 = r3 ∧ x4 = r4
  · have HD : Hid (decide (x1 = r1 ∧ x2 = r2 ∧ x3 = r3 ∧ x4 = r4) = true) := decide_eq_true h
    obtain ⟨rfl, rfl, rfl, rfl⟩ := h
    go_enter Try.func78, Try.ntmps78
    go_wp2_with fail
    refine (names_any x5 f hf _).mono ?_
    rintro e w1 ⟨rfl, rfl⟩
    go_wp2_with fail
    go_ret
    exact ⟨retB (by rw [HK.out, HD.out]; rfl), HB.out⟩
  · have HD : Hid (decide (x1 = r1 ∧ x2 = r2 ∧ x3 = r3 ∧ x4 = r4) = false) := decide_eq_false h
    go_enter Try.func78, Try.ntmps78
    go_wp2_with fail
    all_goals
      first
        | (exfalso; omega)
        | (go_ret
           exact ⟨retB (by rw [HK.out, HD.out]; rfl), below_alloc _ _⟩)
/-- What a round that goes on keeps: what lies below n₀, and the iterator's three boxes. -/
def KeepV (n₀ Bn : Nat) (A B : World) : Prop := Below n₀ A B ∧ ∀ j, j < 3 → B.heap[Bn + j]? = A.heap[Bn + j]?
theorem keepV_t {n₀ Bn : Nat} {A B C : World} (h : KeepV n₀ Bn A B) (k : KeepV n₀ Bn B C) : KeepV n₀ Bn A C := ⟨h.1.trans k.1, fun j hj => (k.2 j hj).trans (h.2 j hj)⟩
theorem keepV_b {n₀ Bn : Nat} {w : World} (hn : n₀ ≤ w.heap.size) (hB : Bn + 2 < w.heap.size) (W : World) (l : Nat) (o o' : Obj) (hl : w.heap.size ≤ l) (h : W.heap[l]? = some o) (h1 : o.isCells = false) (h2 : o.isWalk = false) : KeepV n₀ Bn W (W.putObj l o') :=
  ⟨belowK_b hn W l o o' hl h h1 h2, fun j hj => (belowK_b (n₀ := Bn + 3) (w := w) (by omega) W l o o' hl h h1 h2).block (Bn + j) (by omega)⟩
/-- The first k grants that are of the kind and live, with their indices. -/
def liveL (P : GV → Bool) : List GV → Nat → List (Nat × GV)
  | _, 0 => []
  | G, k + 1 => liveL P G k ++ (match G[k]? with | some g => if P g then [(k, g)] else [] | none => [])
theorem liveL_t (P : GV → Bool) (G : List GV) (k : Nat) (h : k < G.length) (hp : P G[k] = true) : liveL P G (k + 1) = liveL P G k ++ [(k, G[k])] := by
  rw [liveL, List.getElem?_eq_getElem h]; simp [hp]
theorem liveL_f (P : GV → Bool) (G : List GV) (k : Nat) (h : k < G.length) (hp : P G[k] = false) : liveL P G (k + 1) = liveL P G k := by
  rw [liveL, List.getElem?_eq_getElem h]; simp [hp]
theorem liveL_len (P : GV → Bool) (G : List GV) : ∀ k, (liveL P G k).length ≤ k
  | 0 => by simp [liveL]
  | k + 1 => by
    have := liveL_len P G k
    rw [liveL, List.length_append]
    split
    · split <;> simp <;> omega
    · simp; omega
theorem liveL_pre (P : GV → Bool) (G : List GV) : ∀ d k, liveL P G k <+: liveL P G (k + d) := by
  intro d k
  induction d with
  | zero => exact List.prefix_refl _
  | succ d ih => rw [← Nat.add_assoc, liveL]; exact ih.trans (List.prefix_append _ _)
/-- The iterator's boxes. -/
structure ItB (Bn : Nat) (rb fb : Nat) (ra : Option Addr) (rn rc : Nat) (ga : Option Addr) (gn gc : Nat) (W0 W : World) : Prop where
  bel : Below W0.heap.size W0 W
  rules : W.heap[Bn]? = some (.cells #[.slice ra rn rc] 22 (0, 0))
  grants : W.heap[Bn + 1]? = some (.cells #[.slice ga gn gc] 60 (0, 0))
  kind : W.heap[Bn + 2]? = some (.cells #[.func (.func 78) #[] #[.pointer (some ⟨rb, 0, none⟩), .pointer (some ⟨fb, 0, none⟩)]] 129 (0, 0))
section
variable {Bn rb fb : Nat} {ra : Option Addr} {rn rc : Nat} {ga : Option Addr} {gn gc : Nat} {W0 W W' : World}
theorem ItB.keep (h : ItB Bn rb fb ra rn rc ga gn gc W0 W) (k : KeepV W0.heap.size Bn W W') : ItB Bn rb fb ra rn rc ga gn gc W0 W' :=
  ⟨h.bel.trans k.1, (k.2 0 (by decide)).trans h.rules, (k.2 1 (by decide)).trans h.grants, (k.2 2 (by decide)).trans h.kind⟩
theorem ItB.later (h : ItB Bn rb fb ra rn rc ga gn gc W0 W) (k : Below W.heap.size W W') : ItB Bn rb fb ra rn rc ga gn gc W0 W' :=
  ⟨Below.next h.bel k, (k.block _ (Array.getElem?_eq_some_iff.1 h.rules).1).trans h.rules, (k.block _ (Array.getElem?_eq_some_iff.1 h.grants).1).trans h.grants, (k.block _ (Array.getElem?_eq_some_iff.1 h.kind).1).trans h.kind⟩
end
set_option maxRecDepth 100000 in
set_option maxHeartbeats 6400000 in
theorem live1_in (n : Nat) (l Bn : Nat) (r1 r2 r3 r4 : Int) (f : Nat) (hf : f < 256) (rb fb : Nat) (ra : Option Addr) (rn rc : Nat) (L : List RV) (ga : Option Addr) (gn gc : Nat) (G : List GV) (W0 : World)
    (hR : Four W0 rb r1 r2 r3 r4) (hfb : fb < W0.heap.size) (hF : W0.cell? ⟨fb, 0, none⟩ = some (.int .u8 (f : Int))) (hL : IsL W0 ra rn L) (hG : IsG W0 ga gn G) (hrn : rn ≤ 64) (hgn : gn ≤ 64)
    (J Jx : List (Nat × GV) → World → Prop) (hJ : ∀ pre A B, J pre A → Below A.heap.size A B → J pre B)
    (hY : ∀ pre (u : Nat × GV) W, J pre W → pre.length < G.length → YieldAt Fence.wide (n - 1) Try.prog l #[.int .i64 (u.1 : Int), .agg (cells8 u.2).toArray] W fun e W' =>
      (e = .returned (.bool true) ∧ J (pre ++ [u]) W' ∧ KeepV W0.heap.size Bn W W') ∨ (e = .returned (.bool false) ∧ Jx (pre ++ [u]) W'))
    (W : World) (hI : ItB Bn rb fb ra rn rc ga gn gc W0 W) (h0 : J [] W) :
    CallsIn Fence.wide n Try.prog 123 #[.func (.yield l) #[] #[], .pointer (some ⟨Bn + 1, 0, none⟩), .pointer (some ⟨Bn + 2, 0, none⟩), .pointer (some ⟨Bn, 0, none⟩)] W fun e W' => (∃ v, e = .returned v) ∧
      ((∃ ys, ys = liveL (fun g => kindB ⟨r1, r2, r3, r4⟩ f g && lvB g L) G G.length ∧ J ys W') ∨ (∃ pre, pre <+: liveL (fun g => kindB ⟨r1, r2, r3, r4⟩ f g && lvB g L) G G.length ∧ Jx pre W')) := by
  have HRF := Lib.hid hR
  have HFF := Lib.hid hF
  have HL := Lib.hid hL
  have HG := Lib.hid hG
  have HGL := Lib.hid hG.1
  clear hR hF hL hG
  obtain ⟨PP, hPP⟩ : ∃ PP : GV → Bool, PP = fun g => kindB ⟨r1, r2, r3, r4⟩ f g && lvB g L := ⟨_, rfl⟩
  have HPP := Lib.hid hPP
  rw [← hPP]
  clear hPP
  refine callsIn_of_wp Try.func123 rfl trivial ?_ rfl
  simp only [Try.ntmps123, List.size_toArray, List.length_cons, List.length_nil, Nat.reduceAdd, Nat.reduceSub, Array.replicate_succ, Array.replicate_zero, List.push_toArray, List.append_toArray, List.nil_append, List.cons_append]
  have hg1 : W.cell? ⟨Bn + 1, 0, none⟩ = some (.slice ga gn gc) := by simp [World.cell?, hI.grants]
  have HI := Lib.hid hI
  clear hI
  gi_wp2
  clear hg1
  gi_loopw [11] (fun i wr => ∃ k : Nat, k ≤ gn ∧ i = .int .i64 k ∧ Hid (ItB Bn rb fb ra rn rc ga gn gc W0 wr) ∧ Hid (J (liveL PP G k) wr)) (fun i _ => gn - (intOf i).toNat)
  case atStart => exact ⟨0, Nat.zero_le _, rfl, HI.out, h0⟩
  case round =>
    obtain ⟨k, hk, rfl, HIr, HJr⟩ := hrel
    by_cases hlt : k < gn
    · have hkG : k < G.length := by rw [HGL.out]; exact hlt
      obtain ⟨b, off, rfl, hrow⟩ := (IsOf.later HG.out HIr.out.bel).2 (by omega)
      have hbl := hrow.1
      have s := RowOf.eight hrow k hkG
      have HTT := Lib.hid (liveL_t PP G k hkG)
      have HTF := Lib.hid (liveL_f PP G k hkG)
      have HLN := Lib.hid (liveL_len PP G k)
      clear hrow
      have HPG : Hid (PP G[k] = (kindB ⟨r1, r2, r3, r4⟩ f G[k] && lvB G[k] L)) := by unfold Hid; rw [HPP.out]
      have HKC := Lib.hid (kind1_any r1 r2 r3 r4 f hf G[k] rb fb)
      have HLC := Lib.hid (fun (W : World) hL => plive_any G[k] ra rn rc L (by omega) W hL)
      have HYC : Hid (∀ W1, J (liveL PP G k) W1 → YieldAt Fence.wide (n - 1) Try.prog l #[.int .i64 ((k : Nat) : Int), .agg (cells8 G[k]).toArray] W1 fun e W' =>
        (e = .returned (.bool true) ∧ J (liveL PP G k ++ [(k, G[k])]) W' ∧ KeepV W0.heap.size Bn W1 W') ∨ (e = .returned (.bool false) ∧ Jx (liveL PP G k ++ [(k, G[k])]) W')) := fun W1 h => hY _ (k, G[k]) W1 h (by have := HLN.out; omega)
      have HBX := Lib.hid (Box8.start wr G[k] 68)
      have HBA := Lib.hid (below_alloc wr (.cells (cells8 G[k]).toArray 68))
      generalize G[k] = g at *
      obtain ⟨x1, x2, x3, x4, x5, x6, x7, x8⟩ := g
      obtain ⟨c1, c2, c3, c4, c5, c6, c7, c8⟩ := s
      unfold cells8 at HBX HBA HKC HLC HYC
      dsimp only at *
      have hk1 : wr.cell? ⟨Bn + 2, 0, none⟩ = some (.func (.func 78) #[] #[.pointer (some ⟨rb, 0, none⟩), .pointer (some ⟨fb, 0, none⟩)]) := by simp [World.cell?, HIr.out.kind]
      have hkl : Bn + 2 < wr.heap.size := (Array.getElem?_eq_some_iff.1 HIr.out.kind).1
      have HIA := Lib.hid (HIr.out.later HBA.out)
      have HJA := Lib.hid (hJ _ _ _ HJr.out HBA.out)
      gi_wp2_with fail
      clear hk1 c1 c2 c3 c4 c5 c6 c7 c8
      generalize wr.alloc (.cells #[.int .i64 x1, .int .i64 x2, .int .i64 x3, .int .i64 x4, .int .u8 (x5.toNat : Int), .int .u64 (x6.toNat : Int), .int .i64 x7, .bool x8] 68) = wa at *
      refine ⟨trivial, fun h => (by cases h), ?_⟩
      refine (callsIn_wide.2 (HKC.out wa (HRF.out.later HIA.out.bel) (Nat.lt_of_lt_of_le hfb HIA.out.bel.size) ((HIA.out.bel.cell (p := ⟨fb, 0, none⟩) hfb).trans HFF.out))).mono ?_
      rintro e w1 ⟨rfl, hB1⟩
      have HI1 := Lib.hid (HIA.out.later hB1)
      have HJ1 := Lib.hid (hJ _ _ _ HJA.out hB1)
      have HX1 := Lib.hid (HBX.out.later hB1)
      clear hB1 HIA HJA HBX HKC HBA
      cases hkb : kindB ⟨r1, r2, r3, r4⟩ f ⟨x1, x2, x3, x4, x5, x6, x7, x8⟩
      · have HPF := Lib.hid (HTF.out (by rw [HPG.out, hkb]; rfl))
        clear hkb
        gi_wp2_with fail
        exact ⟨⟨k + 1, by omega, by go_num, HI1.out, by rw [HPF.out]; exact HJ1.out⟩, by simp [intOf]; omega⟩
      · have HKB := Lib.hid hkb
        clear hkb
        obtain ⟨_, c1, c2, c3, c4, c5, c6, c7, c8⟩ := HX1.out
        dsimp only at c1 c2 c3 c4 c5 c6 c7 c8
        have hr1 : w1.cell? ⟨Bn, 0, none⟩ = some (.slice ra rn rc) := by simp [World.cell?, HI1.out.rules]
        gi_wp2_with fail
        refine ⟨trivial, fun h => (by cases h), ?_⟩
        refine (callsIn_wide.2 (HLC.out w1 (IsOf.later HL.out HI1.out.bel))).mono ?_
        rintro e w2 ⟨rfl, hB2⟩
        have HI2 := Lib.hid (HI1.out.later hB2)
        have HJ2 := Lib.hid (hJ _ _ _ HJ1.out hB2)
        have HX2 := Lib.hid (HX1.out.later hB2)
        clear hB2 HI1 HJ1 HX1 HLC c1 c2 c3 c4 c5 c6 c7 c8 hr1
        generalize lvE ⟨x1, x2, x3, x4, x5, x6, x7, x8⟩ L = e0 at *
        cases hlv : lvB ⟨x1, x2, x3, x4, x5, x6, x7, x8⟩ L
        · have HPF := Lib.hid (HTF.out (by rw [HPG.out, HKB.out, hlv]; rfl))
          clear hlv
          gi_wp2_with fail
          refine ⟨fun _ h => (by cases h), ?_⟩
          gi_wp2_with fail
          exact ⟨⟨k + 1, by omega, by go_num, HI2.out, by rw [HPF.out]; exact HJ2.out⟩, by simp [intOf]; omega⟩
        · have HPF := Lib.hid (HTT.out (by rw [HPG.out, HKB.out, hlv]; rfl))
          have hp := liveL_pre PP G (G.length - (k + 1)) (k + 1)
          rw [show k + 1 + (G.length - (k + 1)) = G.length by omega] at hp
          have HPRE := Lib.hid hp
          clear hlv hp
          obtain ⟨_, c1, c2, c3, c4, c5, c6, c7, c8⟩ := HX2.out
          dsimp only at c1 c2 c3 c4 c5 c6 c7 c8
          obtain ⟨fn, tmps, assign, body, hy, hR⟩ := HYC.out w2 HJ2.out
          gi_wp2_with fail
          refine ⟨fun h => (by cases h), ?_⟩
          refine hR.mono ?_
          rintro e W3 (⟨rfl, hJ3, hk3⟩ | ⟨rfl, hJx3⟩)
          · have HI3 := Lib.hid (HI2.out.keep hk3)
            rw [← HPF.out] at hJ3
            have HJ3 := Lib.hid hJ3
            clear hJ3 hk3 c1 c2 c3 c4 c5 c6 c7 c8
            gi_wp2_with fail
            exact ⟨⟨k + 1, by omega, by go_num, HI3.out, HJ3.out⟩, by simp [intOf]; omega⟩
          · rw [← HPF.out] at hJx3
            have HJ3 := Lib.hid hJx3
            clear hJx3 c1 c2 c3 c4 c5 c6 c7 c8
            gi_wp2_with fail
            refine bodyPost_ret (results_none rfl _ _ _) rfl ?_
            exact ⟨⟨_, rfl⟩, .inr ⟨_, HPRE.out, HJ3.out⟩⟩
    · obtain rfl : k = gn := by omega
      gi_wp2
      go_end0
      exact ⟨⟨_, rfl⟩, .inl ⟨_, rfl, by rw [HGL.out]; exact HJr.out⟩⟩
end Go.Proofs.Ytndijajaddkbhaa.Re
