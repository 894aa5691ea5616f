/- flogic: truth and of of the statements; three lists of one's own that grow in one region. -/
import Derived.Test.YtdhahiodnmmkeaaGreatDoorMgm
import Derived.Test.YtdhahiodnmmkeaaGreatDoorMgn
import Derived.Test.YtdhahiodnmmkeaaGreatDoorSeqV
import Derived.Test.YtdhahiodnmmkeaaGreatDoorCameB
namespace Go.Proofs.YtdhahiodnmmkeaaGreatDoor.Va
open Go Go.RowKit GM
set_option linter.unusedVariables false
set_option linter.unusedSimpArgs false
theorem ltruth_any (b : Bool) (w : World) : Calls Tryz.prog 18 #[.bool b] w fun e w' => e = .returned (.agg #[.int .u8 2, .int .i64 (b2i b), .string ⟨#[]⟩]) ∧ Below w.heap.size w w' := by
  cases b
  · have H : Hid (b2i false = 0) := rfl
    generalize b2i false = x at *
    go_enter Tryz.func18, Tryz.ntmps18
    go_wp2_with fail
    refine bodyPost_ret (v := .agg #[.int .u8 2, .int .i64 0, .string ⟨#[]⟩]) (by simp [results, Tryz.results18, go_sem]) rfl ⟨by rw [H.out], valloc _ _⟩
  · have H : Hid (b2i true = 1) := rfl
    generalize b2i true = x at *
    go_enter Tryz.func18, Tryz.ntmps18
    go_wp2_with fail
    refine bodyPost_ret (v := .agg #[.int .u8 2, .int .i64 1, .string ⟨#[]⟩]) (by simp [results, Tryz.results18, go_sem]) rfl ⟨by rw [H.out], valloc _ _⟩
set_option maxRecDepth 100000 in
set_option maxHeartbeats 6400000 in
theorem lof_any (fn : Nat) (a : Option Addr) (n cap : Nat) (M : List V3) (w : World) (hL : IsV w a n M) (hn : n ≤ 1000) (hv : ∀ v ∈ M, v.2.2.size ≤ 2000 ∧ InI v.2.1) (hT : Tb w) :
    Calls Tryz.prog 19 #[.int .u8 (fn : Int), .slice a n cap] w fun e w' => e = .returned (vOf (callL fn M).1) ∧ Below w.heap.size w w' := by
  have HP := Lib.hid (fun W (hB : Below w.heap.size w W) (hI : IsV W a n M) => plcall_any fn a n cap M W hI hn hv (hT.later hB))
  have HL := Lib.hid hL
  obtain ⟨⟨⟨rk, rn, rs⟩, re⟩, hr⟩ : ∃ r, callL fn M = r := ⟨_, rfl⟩
  rw [hr] at HP
  rw [hr]
  unfold vOf at *
  dsimp only at *
  clear hL hv hT hr
  have HX : Hid (B3 (w.alloc (.cells #[.int .u8 0, .int .i64 0, .string ⟨#[]⟩] 26)) w.heap.size 0 0 ⟨#[]⟩) := B3.start w 0 0 ⟨#[]⟩
  have HB := Lib.hid (valloc w (.cells #[.int .u8 0, .int .i64 0, .string ⟨#[]⟩] 26))
  go_enter Tryz.func19, Tryz.ntmps19
  go_wp2_with fail
  generalize w.alloc (.cells #[.int .u8 0, .int .i64 0, .string ⟨#[]⟩] 26) = wa at *
  refine (HP.out _ HB.out (IsOf.later HL.out HB.out)).mono ?_
  rintro e w1 ⟨rfl, hB1⟩
  have l1 := valloc w1 (.cells #[.int .u8 (rk : Int), .int .i64 rn, .string rs] 26)
  have HV := Lib.hid (B3.start w1 rk rn rs)
  replace HX := Lib.hid (HX.out.later (vnext hB1 l1))
  replace HB := Lib.hid (vnext HB.out (vnext hB1 l1))
  clear hB1 l1 HP HL
  go_upto_region 2 with fail
  generalize w1.alloc (.cells #[.int .u8 (rk : Int), .int .i64 rn, .string rs] 26) = w2 at *
  obtain ⟨y0, y1, y2, _, _, _⟩ := HV.out.cells
  have hyl := HV.out.lt
  have hB : Below w2.heap.size w2 w2 := Below.refl _ _
  have hX : B3 w2 w.heap.size 0 0 ⟨#[]⟩ := HX.out.later hB
  have HBW := Lib.hid (vnext HB.out hB)
  obtain ⟨x0, x1, x2, z0, z1, z2⟩ := hX.cells
  have hXl := hX.lt
  obtain ⟨hq, hg⟩ := b3_set hX rk rn rs
  have hb5 := HBW.out.grown hg HBW.out.size (fun q hq => by injection hq with hq; omega)
  clear hB hg
  go_wp2_with fail
  generalize ((w2.setCell ⟨w.heap.size, 0, none⟩ (.int .u8 (rk : Int))).setCell ⟨w.heap.size, 1, none⟩ (.int .i64 rn)).setCell ⟨w.heap.size, 2, none⟩ (.string rs) = w5 at *
  obtain ⟨y0, y1, y2, _, _, _⟩ := hq.cells
  refine bodyPost_ret (v := .agg #[.int .u8 (rk : Int), .int .i64 rn, .string rs]) (by simp [results, Tryz.results19, go_sem, y0, y1, y2]) rfl ⟨rfl, hb5⟩
/-- Three lists that were there before a region, apart from each other. -/
def ApartV (a b : Value) : Prop := ∀ g, a.ownBlock = some g → b.ownBlock ≠ some g
theorem ApartV.symm {a b : Value} (h : ApartV a b) : ApartV b a := fun g hg e => h g e hg
theorem virt3 {L : List FB} {n Z : Nat} {W : World} {u v x : Value} {A B C : List V3} (hn : L.length = n + 3) (h1 : L.getD n dflFB = fbV 26 cellsV 3 Z A u) (h2 : L.getD (n + 1) dflFB = fbV 26 cellsV 3 Z B v) (h3 : L.getD (n + 2) dflFB = fbV 26 cellsV 3 Z C x)
    (o1 : OwnV Z W u A) (o2 : OwnV Z W v B) (o3 : OwnV Z W x C) (d1 : ApartV u v) (d2 : ApartV u x) (d3 : ApartV v x) :
    ∀ j, n ≤ j → (L.getD j dflFB).1 (fun j => if j = n then u else if j = n + 1 then v else x) (if j = n then u else if j = n + 1 then v else x) { W with drawn := W.drawn + 1 } ∧
      (∀ g, (L.getD j dflFB).2 (fun j => if j = n then u else if j = n + 1 then v else x) (if j = n then u else if j = n + 1 then v else x) = some g → Z ≤ g ∧ g < W.heap.size) ∧
      ∀ j', n ≤ j' → j ≠ j' → ∀ g, (L.getD j dflFB).2 (fun j => if j = n then u else if j = n + 1 then v else x) (if j = n then u else if j = n + 1 then v else x) = some g → (L.getD j' dflFB).2 (fun j => if j = n then u else if j = n + 1 then v else x) (if j' = n then u else if j' = n + 1 then v else x) ≠ some g := by
  have e1 : ¬ n + 1 = n := by omega
  have e2 : ¬ n + 2 = n := by omega
  have e3 : ¬ n + 2 = n + 1 := by omega
  have hb : ∀ j, n ≤ j → j = n ∨ j = n + 1 ∨ j = n + 2 ∨ L.getD j dflFB = dflFB := fun j hj => by
    by_cases h : j < n + 3
    · omega
    · exact .inr (.inr (.inr (by rw [List.getD_eq_getElem?_getD, List.getElem?_eq_none (by omega)]; rfl)))
  intro j hj
  refine ⟨?_, ?_, ?_⟩
  · obtain rfl | rfl | rfl | h := hb j hj
    · rw [h1, if_pos rfl]; exact ⟨rfl, o1⟩
    · rw [h2, if_neg e1, if_pos rfl]; exact ⟨rfl, o2⟩
    · rw [h3, if_neg e2, if_neg e3]; exact ⟨rfl, o3⟩
    · rw [h]; trivial
  · intro g
    obtain rfl | rfl | rfl | h := hb j hj
    · rw [h1, if_pos rfl]; exact fun hg => World.ownsRow.lt o1 g hg
    · rw [h2, if_neg e1, if_pos rfl]; exact fun hg => World.ownsRow.lt o2 g hg
    · rw [h3, if_neg e2, if_neg e3]; exact fun hg => World.ownsRow.lt o3 g hg
    · rw [h]; intro hg; cases hg
  · intro j' hj' hne g
    obtain rfl | rfl | rfl | h := hb j hj
    · rw [h1, if_pos rfl]
      intro hg
      obtain rfl | rfl | rfl | h' := hb j' hj'
      · exact absurd rfl hne
      · rw [h2, if_neg e1, if_pos rfl]; exact d1 g hg
      · rw [h3, if_neg e2, if_neg e3]; exact d2 g hg
      · rw [h']; intro hc; cases hc
    · rw [h2, if_neg e1, if_pos rfl]
      intro hg
      obtain rfl | rfl | rfl | h' := hb j' hj'
      · rw [h1, if_pos rfl]; exact d1.symm g hg
      · exact absurd rfl hne
      · rw [h3, if_neg e2, if_neg e3]; exact d3 g hg
      · rw [h']; intro hc; cases hc
    · rw [h3, if_neg e2, if_neg e3]
      intro hg
      obtain rfl | rfl | rfl | h' := hb j' hj'
      · rw [h1, if_pos rfl]; exact d2.symm g hg
      · rw [h2, if_neg e1, if_pos rfl]; exact d3.symm g hg
      · exact absurd rfl hne
      · rw [h']; intro hc; cases hc
    · rw [h]; intro hg; cases hg
theorem eval_putV {a : Act} {d t : Nat} {v x : Value} (hne : d ≠ t) (h : a.eval (.tmp t) = x) : (a.put (some d) v).eval (.tmp t) = x := by
  rw [eval_put_ne a (some d) v t (fun e => hne (Option.some.inj e))]; exact h
theorem asgT {d t : Nat} {act : Act} {X : World} (K : Value → World → Prop) (ty : TypeId) (pos : String) (aft : Array Edge) (hK : K (act.eval (.tmp t)) X) : OperR Tryz.prog { dst := some d, op := .assign (.tmp t), type := ty, pos := pos, after := aft, guard := none } act.eval X K := by
  have e : act.eval (.tmp t) = act.tmps[t]?.getD undef := by simp [Act.eval, Array.getD_eq_getD_getElem?]
  rw [e] at hK
  unfold OperR
  go_simp
  exact hK
/-- The end of the region: three assignments in whatever order. -/
def J3 (FIN : (Nat → Value) → Act) (G : (Nat → Value) → World → Prop) (act : Act) (T : Nat → Bool) (X : World) : Prop :=
  ∃ vs, G vs X ∧ ((act.put (some 5) (vs 7)).put (some 6) (vs 16)).put (some 7) (vs 29) = FIN vs ∧ act.eval (.tmp 45) = vs 7 ∧ act.eval (.tmp 54) = vs 16 ∧ act.eval (.tmp 67) = vs 29 ∧
    (T 30 = true → act.put (some 5) (vs 7) = act) ∧ (T 31 = true → act.put (some 6) (vs 16) = act) ∧ (T 32 = true → act.put (some 7) (vs 29) = act)
theorem J3.start {FIN : (Nat → Value) → Act} {G : (Nat → Value) → World → Prop} {act : Act} {X : World} (vs : Nat → Value) (hG : G vs X) (hF : ((act.put (some 5) (vs 7)).put (some 6) (vs 16)).put (some 7) (vs 29) = FIN vs) (h1 : act.eval (.tmp 45) = vs 7) (h2 : act.eval (.tmp 54) = vs 16) (h3 : act.eval (.tmp 67) = vs 29) : J3 FIN G act (fun _ => false) X :=
  ⟨vs, hG, hF, h1, h2, h3, fun h => (by cases h), fun h => (by cases h), fun h => (by cases h)⟩
theorem J3.done {FIN : (Nat → Value) → Act} {G : (Nat → Value) → World → Prop} {act : Act} {T : Nat → Bool} {X : World} (h : J3 FIN G act T X) (h0 : T 30 = true) (h1 : T 31 = true) (h2 : T 32 = true) : ∃ vs, G vs X ∧ act = FIN vs := by
  obtain ⟨vs, hG, hF, _, _, _, k0, k1, k2⟩ := h
  refine ⟨vs, hG, ?_⟩
  rw [← hF, k0 h0, k1 h1, k2 h2]
theorem upT {T : Nat → Bool} {i j : Nat} (h : updB T i j = true) (hne : j ≠ i) : T j = true := by
  unfold updB at h; rwa [if_neg hne] at h
theorem J3.s5 {FIN : (Nat → Value) → Act} {G : (Nat → Value) → World → Prop} {act : Act} {T : Nat → Bool} {X : World} (h : J3 FIN G act T X) : J3 FIN G (act.put (some 5) (act.eval (.tmp 45))) (updB T 30) X := by
  obtain ⟨vs, hG, hF, e1, e2, e3, k0, k1, k2⟩ := h
  rw [e1]
  refine ⟨vs, hG, by rw [put_put]; exact hF, eval_putV (by decide) e1, eval_putV (by decide) e2, eval_putV (by decide) e3, fun _ => put_put _ _ _ _, fun h => ?_, fun h => ?_⟩
  · rw [Act.put_comm _ _ _ (by intro d hd; cases hd; decide), k1 (upT h (by decide))]
  · rw [Act.put_comm _ _ _ (by intro d hd; cases hd; decide), k2 (upT h (by decide))]
theorem J3.s6 {FIN : (Nat → Value) → Act} {G : (Nat → Value) → World → Prop} {act : Act} {T : Nat → Bool} {X : World} (h : J3 FIN G act T X) : J3 FIN G (act.put (some 6) (act.eval (.tmp 54))) (updB T 31) X := by
  obtain ⟨vs, hG, hF, e1, e2, e3, k0, k1, k2⟩ := h
  rw [e2]
  refine ⟨vs, hG, ?_, eval_putV (by decide) e1, eval_putV (by decide) e2, eval_putV (by decide) e3, fun h => ?_, fun _ => put_put _ _ _ _, fun h => ?_⟩
  · rw [Act.put_comm act (x := some 6) (y := some 5) (vs 16) (vs 7) (by intro d hd; cases hd; decide), put_put]; exact hF
  · rw [Act.put_comm _ _ _ (by intro d hd; cases hd; decide), k0 (upT h (by decide))]
  · rw [Act.put_comm _ _ _ (by intro d hd; cases hd; decide), k2 (upT h (by decide))]
theorem J3.s7 {FIN : (Nat → Value) → Act} {G : (Nat → Value) → World → Prop} {act : Act} {T : Nat → Bool} {X : World} (h : J3 FIN G act T X) : J3 FIN G (act.put (some 7) (act.eval (.tmp 67))) (updB T 32) X := by
  obtain ⟨vs, hG, hF, e1, e2, e3, k0, k1, k2⟩ := h
  rw [e3]
  refine ⟨vs, hG, ?_, eval_putV (by decide) e1, eval_putV (by decide) e2, eval_putV (by decide) e3, fun h => ?_, fun h => ?_, fun _ => put_put _ _ _ _⟩
  · rw [Act.put_comm act (x := some 7) (y := some 5) (vs 29) (vs 7) (by intro d hd; cases hd; decide), Act.put_comm (act.put (some 5) (vs 7)) (x := some 7) (y := some 6) (vs 29) (vs 16) (by intro d hd; cases hd; decide), put_put]; exact hF
  · rw [Act.put_comm _ _ _ (by intro d hd; cases hd; decide), k0 (upT h (by decide))]
  · rw [Act.put_comm _ _ _ (by intro d hd; cases hd; decide), k1 (upT h (by decide))]
theorem endO_at {L : List FB} {E : List (List Nat)} {vs : Nat → Value} {w : World} : ∀ (m : List FB) (q : Nat), EndO L E vs w q m → ∀ x, x < m.length → (E.all fun y => !y.contains (q + x)) = true → (m.getD x dflFB).1 vs (vs (q + x)) w
  | [], _, _, x, hx, _ => by simp at hx
  | y :: m, q, h, 0, _, he => h.1 he
  | y :: m, q, h, x + 1, hx, he => by
    have e : q + (x + 1) = q + 1 + x := by omega
    rw [e] at he ⊢
    have := endO_at m (q + 1) h.2 x (by simpa using hx) he
    simpa using this
theorem ApartV.nil (b : Value) : ApartV (.slice none 0 0) b := fun g h => by cases h
end Go.Proofs.YtdhahiodnmmkeaaGreatDoor.Va
