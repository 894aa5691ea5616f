/- Merged: PtA PtB PtC PtD. -/
import Derived.Test.YthgnhdfppmoooaaMov
import Derived.Deep.RegionLaw
import Derived.Test.YthgnhdfppmoooaaCame
/- The addresses that stand for all others: mathematics, and the contract of cuts. -/
namespace Go.Proofs.Ythgnhdfppmoooaa.Re
open Go.RowKit AM
def cutB (lo x : Int) (B : List Int) : Bool := x == lo || B.any (· == x)
def cutL (lo : Int) (B : List Int) : Nat → List Int
  | 0 => []
  | n + 1 => cutL lo B n ++ (if cutB lo (lo + n) B = true then [lo + n] else [])
theorem cutL_len (lo : Int) (B : List Int) : ∀ n, (cutL lo B n).length ≤ n
  | 0 => by simp [cutL]
  | n + 1 => by
    have := cutL_len lo B n
    unfold cutL
    rw [List.length_append]
    split <;> simp <;> omega
theorem cutL_mem {lo : Int} {B : List Int} : ∀ {n : Nat} {x : Int}, x ∈ cutL lo B n ↔ lo ≤ x ∧ x < lo + n ∧ cutB lo x B = true
  | 0, x => by simp [cutL]; intro h1 h2; omega
  | n + 1, x => by
    unfold cutL
    rw [List.mem_append, cutL_mem]
    constructor
    · rintro (⟨h1, h2, h3⟩ | h)
      · exact ⟨h1, by omega, h3⟩
      · split at h
        · rename_i hc
          simp at h
          subst h
          exact ⟨by omega, by omega, hc⟩
        · cases h
    · rintro ⟨h1, h2, h3⟩
      by_cases h : x = lo + n
      · subst h; right; rw [if_pos h3]; simp
      · left; exact ⟨h1, by omega, h3⟩
theorem cut_find {lo : Int} {B : List Int} {n : Nat} : ∀ (d : Nat) {p : Int}, p = lo + d → p < lo + n → ∃ p' ∈ cutL lo B n, p' ≤ p ∧ ∀ b ∈ B, ¬ (p' < b ∧ b ≤ p) := by
  intro d
  induction d with
  | zero =>
    intro p hp hn
    refine ⟨p, cutL_mem.2 ⟨by omega, hn, ?_⟩, Int.le_refl _, fun b _ h => by omega⟩
    unfold cutB
    rw [show (p == lo) = true by simp; omega]; rfl
  | succ d ih =>
    intro p hp hn
    by_cases hc : cutB lo p B = true
    · exact ⟨p, cutL_mem.2 ⟨by omega, hn, hc⟩, Int.le_refl _, fun b _ h => by omega⟩
    · obtain ⟨p', h1, h2, h3⟩ := ih (p := p - 1) (by omega) (by omega)
      refine ⟨p', h1, by omega, fun b hb h => ?_⟩
      by_cases hbp : b = p
      · apply hc
        unfold cutB
        rw [Bool.or_eq_true]
        right
        rw [List.any_eq_true]
        exact ⟨b, hb, by simp [hbp]⟩
      · exact h3 b hb (by omega)
def begC (L : List RV) : List Int := L.flatMap fun r => [r.c1, r.c2 + 1]
def begR (L : List RV) : List Int := L.flatMap fun r => [r.r1, r.r2 + 1]
def wid4 (r : R4) : Nat := (r.c2 - r.c1 + 1).toNat
def hei4 (r : R4) : Nat := (r.r2 - r.r1 + 1).toNat
def colsP (r : R4) (L : List RV) : List Int := cutL r.c1 (begC L) (wid4 r)
def rowsP (r : R4) (L : List RV) : List Int := cutL r.r1 (begR L) (hei4 r)
def ptsL (r : R4) (L : List RV) : List (Int × Int) := (rowsP r L).flatMap fun q => (colsP r L).map fun p => (p, q)
theorem pts_in {r : R4} {L : List RV} {x : Int × Int} (h : x ∈ ptsL r L) : has4 r x.1 x.2 = true := by
  unfold ptsL at h
  obtain ⟨q, hq, h⟩ := List.mem_flatMap.1 h
  obtain ⟨p, hp, rfl⟩ := List.mem_map.1 h
  obtain ⟨a1, a2, _⟩ := cutL_mem.1 hq
  obtain ⟨b1, b2, _⟩ := cutL_mem.1 hp
  unfold wid4 at b2
  unfold hei4 at a2
  rw [has4_iff]
  dsimp only
  omega
theorem pts_rep {r : R4} {L : List RV} {p q : Int} (h : has4 r p q = true) : ∃ x ∈ ptsL r L, ∀ R ∈ L, hasR R x.1 x.2 = hasR R p q := by
  rw [has4_iff] at h
  obtain ⟨p', hp, hp1, hp2⟩ := cut_find (lo := r.c1) (B := begC L) (n := wid4 r) (p - r.c1).toNat (p := p) (by omega) (by unfold wid4; omega)
  obtain ⟨q', hq, hq1, hq2⟩ := cut_find (lo := r.r1) (B := begR L) (n := hei4 r) (q - r.r1).toNat (p := q) (by omega) (by unfold hei4; omega)
  refine ⟨(p', q'), ?_, fun R hR => ?_⟩
  · unfold ptsL
    exact List.mem_flatMap.2 ⟨q', hq, List.mem_map.2 ⟨p', hp, rfl⟩⟩
  · have m1 : R.c1 ∈ begC L := List.mem_flatMap.2 ⟨R, hR, by simp⟩
    have m2 : R.c2 + 1 ∈ begC L := List.mem_flatMap.2 ⟨R, hR, by simp⟩
    have m3 : R.r1 ∈ begR L := List.mem_flatMap.2 ⟨R, hR, by simp⟩
    have m4 : R.r2 + 1 ∈ begR L := List.mem_flatMap.2 ⟨R, hR, by simp⟩
    have e1 := hp2 _ m1
    have e2 := hp2 _ m2
    have e3 := hq2 _ m3
    have e4 := hq2 _ m4
    unfold hasR rhB
    dsimp only
    rw [decide_eq_decide]
    omega
theorem lastI_congr {L : List RV} {p q p' q' : Int} (h : ∀ R ∈ L, hasR R p q = hasR R p' q') : ∀ n, n ≤ L.length → lastI L p q n = lastI L p' q' n := by
  intro n
  induction n with
  | zero => intro _; rfl
  | succ n ih =>
    intro hn
    have hlt : n < L.length := by omega
    have hh := h L[n] (List.getElem_mem hlt)
    cases hc : hasR L[n] p q
    · rw [lastI_f L p q n hlt hc, lastI_f L p' q' n hlt (hh ▸ hc), ih (by omega)]
    · rw [lastI_t L p q n hlt hc, lastI_t L p' q' n hlt (hh ▸ hc)]
theorem pts_last {r : R4} {L : List RV} {p q : Int} (h : has4 r p q = true) : ∃ x ∈ ptsL r L, lastI L x.1 x.2 L.length = lastI L p q L.length := by
  obtain ⟨x, hx, hh⟩ := pts_rep (L := L) h
  exact ⟨x, hx, lastI_congr hh _ (Nat.le_refl _)⟩
/-- The sets at all points, met. -/
def ovP (f : RV → W64) (L : List RV) (l : List (Int × Int)) : W64 := l.foldl (fun a x => a &&& f (ruleAt L (lastI L x.1 x.2 L.length))) (BitVec.allOnes 64)
theorem ovP_snoc (f : RV → W64) (L : List RV) (l : List (Int × Int)) (x : Int × Int) : ovP f L (l ++ [x]) = ovP f L l &&& f (ruleAt L (lastI L x.1 x.2 L.length)) := by unfold ovP; simp
theorem ovP_bit (f : RV → W64) (L : List RV) (b : Nat) (hb : b < 64) (l : List (Int × Int)) : (ovP f L l).getLsbD b = l.all fun x => (f (ruleAt L (lastI L x.1 x.2 L.length))).getLsbD b := by
  have key : ∀ (l : List (Int × Int)) (a : W64), (l.foldl (fun a x => a &&& f (ruleAt L (lastI L x.1 x.2 L.length))) a).getLsbD b = (a.getLsbD b && l.all fun x => (f (ruleAt L (lastI L x.1 x.2 L.length))).getLsbD b) := by
    intro l
    induction l with
    | nil => intro a; simp
    | cons x l ih => intro a; rw [List.foldl_cons, ih, BitVec.getLsbD_and, List.all_cons, Bool.and_assoc]
  unfold ovP
  rw [key]
  have h1 : (BitVec.allOnes 64).getLsbD b = true := by rw [BitVec.getLsbD_allOnes]; exact decide_eq_true hb
  rw [h1, Bool.true_and]
end Go.Proofs.Ythgnhdfppmoooaa.Re
/- The contract of cuts. -/
namespace Go.Proofs.Ythgnhdfppmoooaa.Re
open Go.RowKit AM
def cells1 (x : Int) : List Value := [.int .i64 x]
theorem cells1_len (x : Int) : (cells1 x).length = 1 := rfl
theorem cells1_one (x : Int) : ∀ u ∈ cells1 x, u.oneCell' = true := by
  intro u hu; simp [cells1] at hu; subst hu; rfl
theorem infoInt1 : (Try.prog.info? 3).map (fun i => (i.zero, i.size, i.bytes)) = some (some (.int .i64 0), 1, 8) := by kernel_rfl
theorem zero1 : (Value.int .i64 0).cells.size = 1 := rfl
abbrev OwnN (B : Nat) (w : World) (v : Value) (L : List Int) : Prop := OwnOf 3 cells1 1 B w v L
abbrev IsN (w : World) (a : Option Addr) (n : Nat) (L : List Int) : Prop := IsOf cells1 1 w a n L
theorem RowOf.one_ {w : World} {b off : Nat} {L : List Int} (h : RowOf cells1 1 w b off L) (k : Nat) (hk : k < L.length) : w.cell? ⟨b, off + k, none⟩ = some (.int .i64 L[k]) := by
  have := h.2 k hk 0 _ rfl
  rwa [Nat.mul_one, Nat.add_zero] at this
section
variable {P : Program} {α : Type} {c : α → List Value} {n : Nat} {e : TypeId}
/-- append(s, x...): no block but the list's own has turned. -/
theorem wpList_appG {ops : Array Oper} {rest : List Oper} {o : Oper} {a : Act} {w : World} {Q : Exit → Act → World → Prop} (hgd : o.guard = none) (s x : Operand) (t : TypeId)
    (ho : o.op = .call { callee := .builtin .append, args := #[s, x], argTypes := #[t, t] }) (ht : P.underlying t = some (.slice e)) (z : Value) (bytes : Nat)
    (hinfo : (P.info? e).map (fun i => (i.zero, i.size, i.bytes)) = some (some z, n, bytes)) (hzs : z.cells.size = n) (hn0 : 0 < n) (hbl : 0 < bytes)
    (hn : ∀ x, (c x).length = n) (h1 : ∀ x, ∀ u ∈ c x, u.oneCell' = true)
    (B : Nat) (v : Value) (L : List α) (hs : a.eval s = v) (hown : OwnOf e c n B w v L) (A : Option Addr) (m cp : Nat) (M : List α) (hx : a.eval x = .slice A m cp) (hM : IsOf c n w A m M)
    (hl : (L.length + m) * bytes ≤ 140737488355328) (hB : B ≤ w.heap.size)
    (h : ∀ v' w', OwnOf e c n B w' v' (L ++ M) → w.grownBy w' v.ownBlock → (v'.ownBlock = v.ownBlock ∨ v'.ownBlock = some w.heap.size) → wpList P ops Q rest (a.put o.dst v') w') : wpList P ops Q (o :: rest) a w := by
  obtain ⟨i0, hi, hz0, hz1, hz2⟩ := info_parts hinfo
  refine wpList_append_any w hgd s x t ho B e i0 z n bytes ht hi hz0 hz1 hz2 hzs hn0 v L.length (L.flatMap c) hs hown w.heap.size A m cp (M.flatMap c) hx (hM.reads hn) ?_ ?_ ?_ hB ?_
  · intro u hu
    obtain ⟨y, _, hy⟩ := List.mem_flatMap.1 hu
    exact h1 y u hy
  · have : L.length + m ≤ (L.length + m) * bytes := Nat.le_mul_of_pos_right _ hbl
    unfold maxLen; omega
  · exact hl
  · intro v' w' ho' hg hr
    refine h v' w' ?_ hg hr
    unfold OwnOf
    rw [List.length_append, List.flatMap_append, hM.1]; exact ho'
end
set_option maxHeartbeats 3200000 in
theorem cuts_any (lo hi : Int) (a : Option Addr) (len cap : Nat) (B : List Int) (n : Nat) (h1 : 1 ≤ lo) (h2 : hi ≤ 1024) (hn : n = (hi - lo + 1).toNat) (hl : len ≤ 100000) (w : World) (hL : IsN w a len B) :
    Calls Try.prog 31 #[.int .i64 lo, .int .i64 hi, .slice a len cap] w fun e w' => (∃ v, e = .returned v ∧ OwnN w.heap.size w' v (cutL lo B n)) ∧ Below w.heap.size w w' := by
  have HL := Lib.hid hL
  have HLL := Lib.hid hL.1
  have HN := Lib.hid hn
  have hn' : n ≤ 1024 := by omega
  clear hL hn
  go_enter Try.func31, Try.ntmps31
  go_wp2_with fail
  go_loopw [7, 8] (fun l x wr => ∃ k : Nat, k ≤ n ∧ x = .int .i64 (lo + (k : Int)) ∧ Hid (OwnN w.heap.size wr l (cutL lo B k)) ∧ Below w.heap.size w wr) (fun _ x _ => n - (intOf x - lo).toNat)
  case atStart => exact ⟨0, Nat.zero_le _, by simp, OwnOf.nil _ _ _ _ _, Below.refl _ _⟩
  case round =>
    obtain ⟨k, hk, rfl, HOr, hB⟩ := hrel
    have HB := Lib.hid hB
    clear hB
    by_cases hlt : k < n
    · have hle : lo + (k : Int) ≤ hi := by have := HN.out; omega
      have hcl := cutL_len lo B k
      have HCL := Lib.hid hcl
      clear hcl
      have HST : Hid (cutL lo B (k + 1) = cutL lo B k ++ (if cutB lo (lo + k) B = true then [lo + (k : Int)] else [])) := rfl
      obtain ⟨x, hx⟩ : ∃ x : Int, x = lo + (k : Int) := ⟨_, rfl⟩
      have HX := Lib.hid hx
      rw [← hx] at hle ⊢
      rw [← hx] at HST
      have hx1 : 1 ≤ x := by omega
      clear hx
      have HCB : Hid (cutB lo x B = (x == lo || (B.take len).any (· == x))) := by unfold Hid cutB; rw [List.take_of_length_le (by rw [HLL.out]; exact Nat.le_refl _)]
      go_wp2_with fail
      go_loopw [9, 10] (fun z i ws => ∃ j : Nat, j ≤ len ∧ i = .int .i64 (j : Int) ∧ z = .bool (x == lo || (B.take j).any (· == x)) ∧ ws = wr) (fun _ i _ => len - (intOf i).toNat)
      case atStart => exact ⟨0, Nat.zero_le _, rfl, by simp, rfl⟩
      case round =>
        obtain ⟨j, hj, rfl, rfl, rfl⟩ := hrel
        by_cases hjt : j < len
        · obtain ⟨b, off, rfl, hrow⟩ := (HL.out.later HB.out).2 (by omega)
          have hjl : j < B.length := by rw [HLL.out]; exact hjt
          have c1 := RowOf.one_ hrow j hjl
          have hbl := hrow.1
          have HS : Hid ((x == lo || (B.take (j + 1)).any (· == x)) = ((x == lo || (B.take j).any (· == x)) || B[j] == x)) := by
            unfold Hid
            rw [List.take_succ_eq_append_getElem hjl, List.any_append]
            simp [Bool.or_assoc]
          clear hrow
          generalize B[j] = y at *
          generalize (x == lo || (B.take j).any (· == x)) = z at *
          cases z
          all_goals
            go_wp2_with fail
            go_roundw
            case rel => exact ⟨j + 1, by omega, by go_num, by rw [HS.out]; rfl, by simp⟩
            case measure => simp [intOf]; omega
        · obtain rfl : j = len := by omega
          rw [← HCB.out]
          cases hcb : cutB lo x B
          · rw [hcb] at HST
            have HST2 : Hid (cutL lo B (k + 1) = cutL lo B k) := by unfold Hid; rw [HST.out]; simp
            clear hcb HST HCB
            go_wp2_with fail
            exact ⟨⟨k + 1, by omega, by rw [HX.out]; simp; omega, by rw [HST2.out]; exact HOr.out, HB.out⟩, by simp [intOf]; have := HX.out; omega⟩
          · rw [hcb] at HST
            have HST2 : Hid (cutL lo B (k + 1) = cutL lo B k ++ [x]) := by unfold Hid; rw [HST.out]; simp
            clear hcb HST HCB
            have HO1 := Lib.hid (HOr.out.alloc (.cells #[.int .i64 x] 3))
            have HI1 := Lib.hid (isOf_new (c := cells1) (n := 1) wr #[.int .i64 x] 3 x rfl)
            have hbs := HB.out.size
            go_wp2_with (at_builtin; refine wpList_appOf rfl (.tmp 36) (.tmp 38) 70 rfl Try.underlying70 _ 8 infoInt1 zero1 (by decide) (by decide) cells1_len cells1_one w.heap.size _ _ rfl HO1.out _ 1 1 [x] rfl HI1.out (by have := HCL.out; omega) (by simp; omega) ?_)
            intro v2 w2 ho2 hb2
            have HO2 := Lib.hid ho2
            have HB2 := Lib.hid ((HB.out.alloc HB.out.size (.cells #[.int .i64 x] 3)).trans hb2)
            clear ho2 hb2
            go_wp2_with fail
            exact ⟨⟨k + 1, by omega, by rw [HX.out]; simp; omega, by rw [HST2.out]; exact HO2.out, HB2.out⟩, by simp [intOf]; have := HX.out; omega⟩
    · have hgt : hi < lo + (k : Int) := by have := HN.out; omega
      obtain rfl : k = n := by omega
      go_wp2_with fail
      go_ret
      exact ⟨⟨_, rfl, HOr.out⟩, HB.out⟩
end Go.Proofs.Ythgnhdfppmoooaa.Re
/- The contract of Points. -/
namespace Go.Proofs.Ythgnhdfppmoooaa.Re
open Go.RowKit AM
theorem cells2_one (x : Int × Int) : ∀ u ∈ cells2 x, u.oneCell' = true := by
  intro u hu; simp [cells2] at hu; rcases hu with rfl | rfl <;> rfl
theorem infoRef2 : (Try.prog.info? 52).map (fun i => (i.zero, i.size, i.bytes)) = some (some (.agg #[.int .i64 0, .int .i64 0]), 2, 16) := by kernel_rfl
theorem zero2 : (Value.agg #[.int .i64 0, .int .i64 0]).cells.size = 2 := rfl
abbrev OwnQ2 (B : Nat) (w : World) (v : Value) (L : List (Int × Int)) : Prop := OwnOf 52 cells2 2 B w v L
abbrev IsQ2 (w : World) (a : Option Addr) (n : Nat) (L : List (Int × Int)) : Prop := IsOf cells2 2 w a n L
/-- Two own rows are two. -/
def Dis (a b : Value) : Prop := ∀ g, a.ownBlock = some g → b.ownBlock ≠ some g
theorem isN_two (w : World) (x y : Int) (t : TypeId) : IsN (w.alloc (.cells #[.int .i64 x, .int .i64 y] t)) (some ⟨w.heap.size, 0, none⟩) 2 [x, y] := by
  refine ⟨rfl, fun _ => ⟨w.heap.size, 0, rfl, by simp, fun k hk j v hv => ?_⟩⟩
  match k, hk with
  | 0, _ =>
    cases j with
    | zero => simp [cells1] at hv; subst hv; simp
    | succ j => simp [cells1] at hv
  | 1, _ =>
    cases j with
    | zero => simp [cells1] at hv; subst hv; simp
    | succ j => simp [cells1] at hv
theorem OwnOf.weaken {α : Type} {c : α → List Value} {n : Nat} {e : TypeId} {B B' : Nat} {w : World} {v : Value} {L : List α} (h : OwnOf e c n B w v L) (hB : B' ≤ B) : OwnOf e c n B' w v L := by
  obtain ⟨h1, h2⟩ := h
  refine ⟨h1, ?_⟩
  rcases h2 with h2 | ⟨g, cap, cur, rfl, hg, hrest⟩
  · exact .inl h2
  · exact .inr ⟨g, cap, cur, rfl, by omega, hrest⟩
theorem begC_len (L : List RV) : (begC L).length = 2 * L.length := by
  induction L with
  | nil => rfl
  | cons r L ih => unfold begC at *; rw [List.flatMap_cons, List.length_append, ih, List.length_cons]; simp; omega
theorem begR_len (L : List RV) : (begR L).length = 2 * L.length := by
  induction L with
  | nil => rfl
  | cons r L ih => unfold begR at *; rw [List.flatMap_cons, List.length_append, ih, List.length_cons]; simp; omega
theorem begC_snoc (L : List RV) (k : Nat) (h : k < L.length) : begC (L.take (k + 1)) = begC (L.take k) ++ [L[k].c1, L[k].c2 + 1] := by
  unfold begC; rw [List.take_succ_eq_append_getElem h, List.flatMap_append]; simp
theorem begR_snoc (L : List RV) (k : Nat) (h : k < L.length) : begR (L.take (k + 1)) = begR (L.take k) ++ [L[k].r1, L[k].r2 + 1] := by
  unfold begR; rw [List.take_succ_eq_append_getElem h, List.flatMap_append]; simp
def lineP (ps : List Int) (q : Int) : List (Int × Int) := ps.map fun p => (p, q)
theorem lines_len (ps : List Int) : ∀ l : List Int, (l.flatMap (lineP ps)).length = l.length * ps.length
  | [] => by simp
  | q :: l => by rw [List.flatMap_cons, List.length_append, lines_len ps l, List.length_cons]; unfold lineP; simp [Nat.add_mul]; omega
theorem lines_snoc (ps qs : List Int) (i : Nat) (h : i < qs.length) : (qs.take (i + 1)).flatMap (lineP ps) = (qs.take i).flatMap (lineP ps) ++ lineP ps qs[i] := by
  rw [List.take_succ_eq_append_getElem h, List.flatMap_append]; simp
theorem line_snoc (ps : List Int) (q : Int) (k : Nat) (h : k < ps.length) : lineP (ps.take (k + 1)) q = lineP (ps.take k) q ++ [(ps[k], q)] := by
  unfold lineP; rw [List.take_succ_eq_append_getElem h, List.map_append]; simp
theorem Dis.new {a b v : Value} {n : Nat} (h : Dis a b) (hb : ∀ g, b.ownBlock = some g → g < n) (hv : v.ownBlock = a.ownBlock ∨ ∃ m, v.ownBlock = some m ∧ n ≤ m) : Dis v b := by
  intro g hg e
  rcases hv with hv | ⟨m, hv, hm⟩
  · exact h g (hv ▸ hg) e
  · rw [hv] at hg; injection hg with hg; have := hb g e; omega
theorem Dis.symm {a b : Value} (h : Dis a b) : Dis b a := fun g hg e => h g e hg
theorem Dis.kept {a b : Value} (h : Dis a b) : b.ownBlock = none ∨ b.ownBlock ≠ a.ownBlock := by
  cases hb : b.ownBlock with
  | none => exact .inl rfl
  | some g => exact .inr fun e => h g e.symm hb
set_option maxRecDepth 100000 in
set_option maxHeartbeats 6400000 in
theorem points_any (r1 r2 r3 r4 : Int) (a : Option Addr) (len cap : Nat) (L : List RV) (hlen : len ≤ 64) (w : World) (hL : IsL w a len L) (hck : ∀ k, k < L.length → (rr4 (ruleAt L k)).ck = true) (hr : (⟨r1, r2, r3, r4⟩ : R4).ck = true) :
    Calls Try.prog 15 #[.agg #[.int .i64 r1, .int .i64 r2, .int .i64 r3, .int .i64 r4], .slice a len cap] w fun e w' => (∃ v, e = .returned v ∧ OwnQ2 w.heap.size w' v (ptsL ⟨r1, r2, r3, r4⟩ L)) ∧ Below w.heap.size w w' := by
  have HL := Lib.hid hL
  have HLL := Lib.hid hL.1
  have HCK := Lib.hid hck
  have hr4 := hr
  unfold R4.ck at hr4
  rw [ckB_iff] at hr4
  dsimp only at hr4
  clear hL hck
  have HF0 := Lib.hid (Four.start w r1 r2 r3 r4 23)
  have HB0 := Lib.hid (below_alloc w (.cells #[.int .i64 r1, .int .i64 r2, .int .i64 r3, .int .i64 r4] 23))
  go_enter Try.func15, Try.ntmps15
  go_wp2_with fail
  generalize w.alloc (.cells #[.int .i64 r1, .int .i64 r2, .int .i64 r3, .int .i64 r4] 23) = w0 at *
  go_loopw [5, 6, 7] (fun vc vr z wr => ∃ k : Nat, k ≤ len ∧ z = .int .i64 (k : Int) ∧ Hid (OwnN w0.heap.size wr vc (begC (L.take k))) ∧ Hid (OwnN w0.heap.size wr vr (begR (L.take k))) ∧ Hid (Dis vc vr) ∧ Hid (Below w0.heap.size w0 wr)) (fun _ _ z _ => len - (intOf z).toNat)
  case atStart => exact ⟨0, Nat.zero_le _, rfl, OwnOf.nil _ _ _ _ _, OwnOf.nil _ _ _ _ _, (fun g hg => by cases hg), Below.refl _ _⟩
  case round =>
    obtain ⟨k, hk, rfl, HC, HR, HD, HB⟩ := hrel
    by_cases hlt : k < len
    · have hkL : k < L.length := by rw [HLL.out]; exact hlt
      have hok := HCK.out k hkL
      rw [ruleAt_get hkL] at hok
      obtain ⟨b, off, rfl, hrow⟩ := (HL.out.later (Below.next HB0.out HB.out)).2 (by omega)
      have hbl := hrow.1
      have s := RowOf.seven hrow k hkL
      have HS1 := Lib.hid (begC_snoc L k hkL)
      have HS2 := Lib.hid (begR_snoc L k hkL)
      have HT1 : Hid ((begC (L.take k)).length ≤ 128) := by unfold Hid; rw [begC_len, List.length_take]; omega
      have HT2 : Hid ((begR (L.take k)).length ≤ 128) := by unfold Hid; rw [begR_len, List.length_take]; omega
      clear hrow
      generalize L[k] = R at *
      obtain ⟨x1, x2, x3, x4, x5, x6, x7⟩ := R
      obtain ⟨c1, c2, c3, c4, _⟩ := s
      unfold rr4 R4.ck at hok
      rw [ckB_iff] at hok
      dsimp only at *
      have hwz := HB.out.size
      have HO1 := Lib.hid ((HC.out.alloc (.cells #[.int .i64 x1, .int .i64 x2, .int .i64 x3, .int .i64 x4] 23)).alloc (.cells #[.int .i64 x1, .int .i64 (x3 + 1)] 3))
      have hi1 := isN_two (wr.alloc (.cells #[.int .i64 x1, .int .i64 x2, .int .i64 x3, .int .i64 x4] 23)) x1 (x3 + 1) 3
      rw [World.size_alloc] at hi1
      have HI1 := Lib.hid hi1
      have HRA := Lib.hid ((HR.out.alloc (.cells #[.int .i64 x1, .int .i64 x2, .int .i64 x3, .int .i64 x4] 23)).alloc (.cells #[.int .i64 x1, .int .i64 (x3 + 1)] 3))
      have HFX := Lib.hid ((Four.start wr x1 x2 x3 x4 23).later (below_alloc _ (.cells #[.int .i64 x1, .int .i64 (x3 + 1)] 3)))
      have HBA := Lib.hid ((HB.out.alloc hwz (.cells #[.int .i64 x1, .int .i64 x2, .int .i64 x3, .int .i64 x4] 23)).alloc (by simp; omega) (.cells #[.int .i64 x1, .int .i64 (x3 + 1)] 3))
      have HCL := Lib.hid (fun g h => (World.ownsRow.lt HC.out g h).2)
      have HCG := Lib.hid (fun g h => (World.ownsRow.lt HC.out g h).1)
      have HRL := Lib.hid (fun g h => (World.ownsRow.lt HR.out g h).2)
      have HRG := Lib.hid (fun g h => (World.ownsRow.lt HR.out g h).1)
      clear hi1
      go_wp2_with (at_builtin; refine wpList_appG rfl (.tmp 25) (.tmp 31) 70 rfl Try.underlying70 _ 8 infoInt1 zero1 (by decide) (by decide) cells1_len cells1_one w0.heap.size _ _ rfl HO1.out _ 2 2 [x1, x3 + 1] rfl HI1.out (by have := HT1.out; omega) (by simp; omega) ?_)
      intro v1 w1 ho1 hg1 hr1
      have HO1' := Lib.hid ho1
      have HRK := Lib.hid (World.ownsRow.kept HRA.out hg1 HD.out.kept)
      have HD1 : Hid (Dis v1 u6) := HD.out.new (n := wr.heap.size) HRL.out (by rcases hr1 with h | h; exact .inl h; exact .inr ⟨_, h, by first | omega | (simp; omega)⟩)
      have HFX1 : Hid (Four w1 wr.heap.size x1 x2 x3 x4) := by
        obtain ⟨h0, q1, q2, q3, q4⟩ := HFX.out
        have hk := hg1.block wr.heap.size h0 (fun e => by have := HCL.out _ e.symm; omega)
        have key : ∀ j, w1.cell? ⟨wr.heap.size, j, none⟩ = _ := fun j => World.cell?_of_block (a := ⟨wr.heap.size, j, none⟩) hk
        exact ⟨Nat.lt_of_lt_of_le h0 hg1.size, (key _).trans q1, (key _).trans q2, (key _).trans q3, (key _).trans q4⟩
      have HB1 := Lib.hid (HBA.out.grown hg1 (by simp; omega) HCG.out)
      have hz1 := hg1.size
      rw [World.size_alloc, World.size_alloc] at hz1
      clear ho1 hg1 hr1 HO1 HI1 HRA HFX HBA c1 c2 c3 c4
      obtain ⟨_, c1, c2, c3, c4⟩ := HFX1.out
      have HO2 := Lib.hid (OwnOf.alloc (e := 3) (c := cells1) (n := 1) (L := begR (L.take k)) HRK.out (.cells #[.int .i64 x2, .int .i64 (x4 + 1)] 3))
      have HI2 := Lib.hid (isN_two w1 x2 (x4 + 1) 3)
      have HCA := Lib.hid (OwnOf.alloc HO1'.out (.cells #[.int .i64 x2, .int .i64 (x4 + 1)] 3))
      have HBB := Lib.hid (HB1.out.alloc (by omega) (.cells #[.int .i64 x2, .int .i64 (x4 + 1)] 3))
      have HVL := Lib.hid (fun g h => (World.ownsRow.lt HO1'.out g h).2)
      go_wp2_with (at_builtin; refine wpList_appG rfl (.tmp 33) (.tmp 39) 70 rfl Try.underlying70 _ 8 infoInt1 zero1 (by decide) (by decide) cells1_len cells1_one w0.heap.size _ _ rfl HO2.out _ 2 2 [x2, x4 + 1] rfl HI2.out (by have := HT2.out; omega) (by simp; omega) ?_)
      intro v2 w2 ho2 hg2 hr2
      have HO2' := Lib.hid ho2
      have HCK2 := Lib.hid (World.ownsRow.kept HCA.out hg2 HD1.out.symm.kept)
      have HD2 : Hid (Dis v2 v1) := HD1.out.symm.new (n := w1.heap.size) HVL.out (by rcases hr2 with h | h; exact .inl h; exact .inr ⟨_, h, by first | omega | (simp; omega)⟩)
      have HB2 := Lib.hid (HBB.out.grown hg2 (by simp; omega) HRG.out)
      clear ho2 hg2 hr2
      go_wp2_with fail
      exact ⟨⟨k + 1, by omega, by go_num, by rw [HS1.out]; exact HCK2.out, by rw [HS2.out]; exact HO2'.out, HD2.out.symm, HB2.out⟩, by simp [intOf]; omega⟩
    · obtain rfl : k = len := by omega
      have hTL : L.take k = L := List.take_of_length_le (by rw [HLL.out]; exact Nat.le_refl _)
      rw [hTL] at HC HR
      clear hTL HD
      obtain ⟨ca, cc, rfl, hci⟩ := HC.out.isOf cells1_len
      obtain ⟨ra, rc, rfl, hri⟩ := HR.out.isOf cells1_len
      have HCI := Lib.hid hci
      have HRI := Lib.hid hri
      have hcl : (begC L).length ≤ 128 := by rw [begC_len, HLL.out]; omega
      have hrl : (begR L).length ≤ 128 := by rw [begR_len, HLL.out]; omega
      have HFr := Lib.hid (HF0.out.later HB.out)
      have HBr := Lib.hid (Below.next HB0.out HB.out)
      have HCO : Hid (colsP ⟨r1, r2, r3, r4⟩ L = cutL r1 (begC L) (wid4 ⟨r1, r2, r3, r4⟩)) := rfl
      have HRO : Hid (rowsP ⟨r1, r2, r3, r4⟩ L = cutL r2 (begR L) (hei4 ⟨r1, r2, r3, r4⟩)) := rfl
      clear hci hri HC HR HB HF0 HB0 HL HCK hlt hk
      generalize begC L = bc at *
      generalize begR L = br at *
      go_wp2_with fail
      refine wp_region_seqo (fun X => Below wr.heap.size wr X) wr.heap.size
        [fbC (.pointer (some ⟨w.heap.size, 1, none⟩)), fbC (.int .i64 r2), fbC (.pointer (some ⟨w.heap.size, 3, none⟩)), fbC (.int .i64 r4), fbC (.slice ra br.length rc), fbL 3 cells1 1 wr.heap.size (cutL r2 br (hei4 ⟨r1, r2, r3, r4⟩)),
          fbC (.pointer (some ⟨w.heap.size, 0, none⟩)), fbC (.int .i64 r1), fbC (.pointer (some ⟨w.heap.size, 2, none⟩)), fbC (.int .i64 r3), fbC (.slice ca bc.length cc), fbL 3 cells1 1 wr.heap.size (cutL r1 bc (wid4 ⟨r1, r2, r3, r4⟩)),
          fbL 3 cells1 1 wr.heap.size (cutL r2 br (hei4 ⟨r1, r2, r3, r4⟩)), fbL 3 cells1 1 wr.heap.size (cutL r1 bc (wid4 ⟨r1, r2, r3, r4⟩))]
        [[], [], [], [], [], [], [], [], [], [], [], [], [5], [11]] [[], [], [], [], [], [], [], [], [], [], [], [], [], []] [[], [0], [], [2], [], [1, 3, 4], [], [6], [], [8], [], [7, 9, 10], [5], [11]]
        (fun a b h k => k.trans h) (by kernel_rfl) (by kernel_rfl) (by kernel_rfl) ⟨rfl, rfl, rfl, Nat.le_refl _, fun _ _ => rfl⟩ (Nat.le_refl _) ?_ (by kernel_rfl)
        ⟨good_C _ _, good_C _ _, good_C _ _, good_C _ _, good_C _ _, good_L _, good_C _ _, good_C _ _, good_C _ _, good_C _ _, good_C _ _, good_L _, good_L _, good_L _, trivial⟩ (Nat.le_refl 14)
      simp only [putsL, Act.put, List.setIfInBounds_toArray, List.set_cons_zero, List.set_cons_succ, Nat.zero_add, Nat.reduceAdd]
      refine seqo_cons (obo_run rfl (fun vs W hD => rfl) (fun vs W hS hD => ?_)) ?_
      · go_simp; done
      refine seqo_cons (obo_run rfl (fun vs W hD => rfl) (fun vs W hS hD => ?_)) ?_
      · obtain ⟨_, e1, e2, e3, e4⟩ := HFr.out.later hS
        have h1 : vs 0 = _ := hD.1
        go_simp; done
      refine seqo_cons (obo_run rfl (fun vs W hD => rfl) (fun vs W hS hD => ?_)) ?_
      · go_simp; done
      refine seqo_cons (obo_run rfl (fun vs W hD => rfl) (fun vs W hS hD => ?_)) ?_
      · obtain ⟨_, e1, e2, e3, e4⟩ := HFr.out.later hS
        have h1 : vs 2 = _ := hD.1
        go_simp; done
      refine seqo_cons (obo_run rfl (fun vs W hD => rfl) (fun vs W hS hD => ?_)) ?_
      · go_simp; done
      refine seqo_cons (obo_list rfl (f := 31) (fun vs => #[.int .i64 r2, .int .i64 r4, .slice ra br.length rc]) (fun vs W hD => rfl) (fun vs W hS hD => ?_) (fun vs W hS hZ hD => ?_)) ?_
      · have h1 : vs 1 = _ := hD.1
        have h2 : vs 3 = _ := hD.2.1
        have h3 : vs 4 = _ := hD.2.2.1
        go_simp; done
      · exact cuts_any r2 r4 ra br.length rc br _ (by omega) (by omega) rfl (by omega) W (HRI.out.later hS)
      refine seqo_cons (obo_run rfl (fun vs W hD => rfl) (fun vs W hS hD => ?_)) ?_
      · go_simp; done
      refine seqo_cons (obo_run rfl (fun vs W hD => rfl) (fun vs W hS hD => ?_)) ?_
      · obtain ⟨_, e1, e2, e3, e4⟩ := HFr.out.later hS
        have h1 : vs 6 = _ := hD.1
        go_simp; done
      refine seqo_cons (obo_run rfl (fun vs W hD => rfl) (fun vs W hS hD => ?_)) ?_
      · go_simp; done
      refine seqo_cons (obo_run rfl (fun vs W hD => rfl) (fun vs W hS hD => ?_)) ?_
      · obtain ⟨_, e1, e2, e3, e4⟩ := HFr.out.later hS
        have h1 : vs 8 = _ := hD.1
        go_simp; done
      refine seqo_cons (obo_run rfl (fun vs W hD => rfl) (fun vs W hS hD => ?_)) ?_
      · go_simp; done
      refine seqo_cons (obo_list rfl (f := 31) (fun vs => #[.int .i64 r1, .int .i64 r3, .slice ca bc.length cc]) (fun vs W hD => rfl) (fun vs W hS hD => ?_) (fun vs W hS hZ hD => ?_)) ?_
      · have h1 : vs 7 = _ := hD.1
        have h2 : vs 9 = _ := hD.2.1
        have h3 : vs 10 = _ := hD.2.2.1
        go_simp; done
      · exact cuts_any r1 r3 ca bc.length cc bc _ (by omega) (by omega) rfl (by omega) W (HCI.out.later hS)
      refine seqo_cons (obo_mv (j := 5) rfl rfl (by decide) (fun vs W hD => rfl) (fun vs W hS hD => ⟨?_, hD.1⟩)) ?_
      · go_simp; done
      refine seqo_cons (obo_mv (j := 11) rfl rfl (by decide) (fun vs W hD => rfl) (fun vs W hS hD => ⟨?_, hD.1⟩)) ?_
      · go_simp; done
      refine seqo_end fun vs W hS hZ hv => ?_
      obtain ⟨k0, k1, k2, k3, k4, k5, k6, k7, k8, k9, k10, k11, k12, k13, kz⟩ := hv
      have h0 : vs 0 = _ := k0 rfl
      have h1 : vs 1 = _ := k1 rfl
      have h2 : vs 2 = _ := k2 rfl
      have h3 : vs 3 = _ := k3 rfl
      have h4 : vs 4 = _ := k4 rfl
      have h6 : vs 6 = _ := k6 rfl
      have h7 : vs 7 = _ := k7 rfl
      have h8 : vs 8 = _ := k8 rfl
      have h9 : vs 9 = _ := k9 rfl
      have h10 : vs 10 = _ := k10 rfl
      obtain ⟨qa, qc, hq, hqi⟩ := OwnOf.isOf cells1_len (k12 rfl)
      obtain ⟨pa, pc, hp, hpi⟩ := OwnOf.isOf cells1_len (k13 rfl)
      rw [← HRO.out] at hq hqi
      rw [← HCO.out] at hp hpi
      have HQI := Lib.hid hqi
      have HPI := Lib.hid hpi
      have HBW := Lib.hid (Below.next HBr.out hS)
      have hlq : (rowsP ⟨r1, r2, r3, r4⟩ L).length ≤ 1024 := by rw [HRO.out]; exact Nat.le_trans (cutL_len _ _ _) (by unfold hei4; dsimp only; omega)
      have hlp : (colsP ⟨r1, r2, r3, r4⟩ L).length ≤ 1024 := by rw [HCO.out]; exact Nat.le_trans (cutL_len _ _ _) (by unfold wid4; dsimp only; omega)
      have HPT : Hid (ptsL ⟨r1, r2, r3, r4⟩ L = (rowsP ⟨r1, r2, r3, r4⟩ L).flatMap (lineP (colsP ⟨r1, r2, r3, r4⟩ L))) := rfl
      simp only [h0, h1, h2, h3, h4, h6, h7, h8, h9, h10, hq, hp]
      clear h0 h1 h2 h3 h4 h6 h7 h8 h9 h10 hq hp hqi hpi k0 k1 k2 k3 k4 k5 k6 k7 k8 k9 k10 k11 k12 k13 kz hS hZ HBr HFr HCI HRI HRO HCO
      generalize rowsP ⟨r1, r2, r3, r4⟩ L = qs at *
      generalize colsP ⟨r1, r2, r3, r4⟩ L = ps at *
      generalize hqn : qs.length = qn at *
      generalize hpn : ps.length = pn at *
      have HQN := Lib.hid hqn
      have HPN := Lib.hid hpn
      clear hqn hpn
      go_wp2_with fail
      go_loopw [11, 12] (fun l z wo => ∃ i : Nat, i ≤ qn ∧ z = .int .i64 (i : Int) ∧ Hid (OwnQ2 W.heap.size wo l ((qs.take i).flatMap (lineP ps))) ∧ Hid (Below W.heap.size W wo)) (fun _ z _ => qn - (intOf z).toNat)
      case atStart => exact ⟨0, Nat.zero_le _, rfl, OwnOf.nil _ _ _ _ _, Below.refl _ _⟩
      case round =>
        obtain ⟨i, hi, rfl, HO, HB⟩ := hrel
        by_cases hit : i < qn
        · have hiq : i < qs.length := by rw [HQN.out]; exact hit
          have HLS := Lib.hid (lines_snoc ps qs i hiq)
          have HLN : Hid (((qs.take i).flatMap (lineP ps)).length = i * pn) := by unfold Hid; rw [lines_len, List.length_take, HPN.out, Nat.min_eq_left (by omega)]
          have HIP : Hid (i * pn ≤ 1048576) := Nat.le_trans (Nat.mul_le_mul (show i ≤ 1024 by omega) hlp) (by decide)
          go_wp2_with fail
          go_loopw [11, 13] (fun l z ws => ∃ k : Nat, k ≤ pn ∧ z = .int .i64 (k : Int) ∧ Hid (OwnQ2 W.heap.size ws l ((qs.take i).flatMap (lineP ps) ++ lineP (ps.take k) qs[i])) ∧ Hid (Below W.heap.size W ws)) (fun _ z _ => pn - (intOf z).toNat)
          case atStart => exact ⟨0, Nat.zero_le _, rfl, by simpa [lineP, Hid] using HO, HB.out⟩
          case round =>
            clear HO HB
            obtain ⟨k, hk, rfl, HO, HB⟩ := hrel
            by_cases hkt : k < pn
            · have hkp : k < ps.length := by rw [HPN.out]; exact hkt
              obtain ⟨qb, qo, rfl, hqrow⟩ := (IsOf.later HQI.out HB.out).2 (by omega)
              obtain ⟨pb, po, rfl, hprow⟩ := (IsOf.later HPI.out HB.out).2 (by omega)
              have cq := RowOf.one_ hqrow i hiq
              have cp := RowOf.one_ hprow k hkp
              have HKS := Lib.hid (line_snoc ps qs[i] k hkp)
              have HKN : Hid (((qs.take i).flatMap (lineP ps) ++ lineP (ps.take k) qs[i]).length ≤ 1050000) := by
                unfold Hid
                rw [List.length_append, HLN.out]
                have := HIP.out
                unfold lineP
                rw [List.length_map, List.length_take]
                omega
              have hqb := hqrow.1
              have hpb := hprow.1
              have hws := HB.out.size
              clear hqrow hprow
              generalize qs[i] = q at *
              generalize ps[k] = p at *
              generalize hMM : (qs.take i).flatMap (lineP ps) ++ lineP (ps.take k) q = M at *
              have HMM := Lib.hid hMM
              clear hMM
              go_wp2_with fail
              go_region_law (first
                | (refine step_appOf rfl (.tmp 65) (.tmp 75) 48 rfl Try.underlying48 _ 16 infoRef2 zero2 (by decide) (by decide) cells2_len cells2_one W.heap.size _ M rfl (by first | exact HO.out.alloc _ | exact HO.out) _ 1 1 [(p, q)] rfl (isOf_new _ _ _ _ rfl) (by have := HKN.out; omega) (by simp; omega) ?_
                   intro v3 w3 ho3 hb3))
              all_goals
                have HO3 := Lib.hid ho3
                have HB3 : Hid (Below W.heap.size W w3) := ((HB.out.alloc hws _).drew).trans hb3
                clear ho3 hb3
                go_wp2_with fail
                go_roundw
                case rel => exact ⟨k + 1, by omega, by go_num, by rw [HKS.out, ← List.append_assoc, HMM.out]; exact HO3.out, HB3.out⟩
                case measure => simp [intOf]; omega
            · obtain rfl : k = pn := by omega
              have hps : ps.take k = ps := List.take_of_length_le (by rw [HPN.out]; exact Nat.le_refl _)
              rw [hps, ← HLS.out] at HO
              clear hps
              go_wp2_with fail
              exact ⟨⟨i + 1, by omega, by go_num, HO.out, HB.out⟩, by simp [intOf]; omega⟩
        · obtain rfl : i = qn := by omega
          have hqs : qs.take i = qs := List.take_of_length_le (by rw [HQN.out]; exact Nat.le_refl _)
          rw [hqs, ← HPT.out] at HO
          clear hqs
          go_wp2_with fail
          go_ret
          exact ⟨⟨_, rfl, OwnOf.weaken HO.out (by have := HBW.out.size; omega)⟩, Below.next HBW.out HB.out⟩
end Go.Proofs.Ythgnhdfppmoooaa.Re
/- The specification's Over and May. -/
namespace Go.Proofs.Ythgnhdfppmoooaa.Re
open Go.RowKit AM
set_option maxHeartbeats 1600000 in
theorem scheck20_any (x1 x2 x3 x4 : Int) (a : Option Addr) (len cap : Nat) (L : List RV) (w : World) (hL : IsL w a len L) :
    Calls Try.prog 9 #[.agg #[.int .i64 x1, .int .i64 x2, .int .i64 x3, .int .i64 x4], .slice a len cap] w fun e w' => e = .returned (.int .i64 (gcE ⟨x1, x2, x3, x4⟩ L)) ∧ Below w.heap.size w w' := by
  have HL := Lib.hid hL
  clear hL
  have l1 := Lib.hid (below_alloc w (.cells #[.int .i64 x1, .int .i64 x2, .int .i64 x3, .int .i64 x4] 23))
  go_enter Try.func9, Try.ntmps9
  go_wp2_with fail
  refine (srange_any x1 x2 x3 x4 _).mono ?_
  rintro e w1 ⟨rfl, hB1⟩
  have HB1 := Lib.hid (Below.next l1.out hB1)
  clear hB1 l1
  cases hc : ckB x1 x2 x3 x4
  · have HC := Lib.hid hc
    clear hc
    go_wp2_with fail
    go_ret
    exact ⟨retI (by unfold gcE; rw [if_neg (by rw [HC.out]; decide)]), HB1.out⟩
  · have HC := Lib.hid hc
    clear hc
    go_wp2_with fail
    refine (scheck_big 64 a len cap L _ (HL.out.later HB1.out)).mono ?_
    rintro e w2 ⟨rfl, hB2⟩
    have HB2 := Lib.hid (Below.next HB1.out hB2)
    clear hB2 HB1
    unfold ckV
    go_wp2_with fail
    go_ret
    exact ⟨retI (by unfold gcE; rw [if_pos HC.out]), HB2.out⟩
theorem ovP_pts {f : RV → W64} {r : R4} {L : List RV} (h : gcE r L = 0) : ovP f L (ptsL r L) = ovr f r L := by
  apply BitVec.eq_of_getLsbD_eq
  intro i hi
  rw [Bool.eq_iff_iff, ovP_bit f L i hi, List.all_eq_true, ovr_iff h hi]
  constructor
  · intro hh p q hp
    obtain ⟨x, hx, hl⟩ := pts_last (L := L) hp
    rw [← hl]
    exact hh x hx
  · intro hh x hx
    exact hh _ _ (pts_in hx)
theorem ownQ2_at {B : Nat} {w : World} {a : Option Addr} {n c : Nat} {D : List (Int × Int)} (h : OwnQ2 B w (.slice a n c) D) (k : Nat) (hk : k < D.length) : ∃ g, a = some ⟨g, 0, none⟩ ∧ g < w.heap.size ∧
    w.cell? ⟨g, k * 2, none⟩ = some (.int .i64 D[k].1) ∧ w.cell? ⟨g, k * 2 + 1, none⟩ = some (.int .i64 D[k].2) := by
  obtain ⟨a', c', e, hi⟩ := h.isOf cells2_len
  injection e with e1 e2 e3
  subst e1
  rcases h.2 with ⟨h1, h2⟩ | ⟨g, cp, cur, h1, hg, hh, _⟩
  · rw [← e2] at h2; rw [show D.length = 0 by omega] at hk; cases hk
  · injection h1 with h1 _ _
    subst h1
    obtain ⟨b, off, hb, hr⟩ := hi.2 (by omega)
    injection hb with hb
    injection hb with hb1 hb2
    subst hb1; subst hb2
    have key : ∀ (j : Nat) (v : Value), (cells2 D[k])[j]? = some v → w.cell? ⟨g, k * 2 + j, none⟩ = some v := fun j v hv => by
      have := hr.2 k hk j v hv
      rwa [Nat.zero_add] at this
    exact ⟨g, rfl, hr.1, key 0 _ rfl, key 1 _ rfl⟩
end Go.Proofs.Ythgnhdfppmoooaa.Re
