/- ftext: rows of strings and of numbers; text and count. -/
import Derived.Test.YtfjefanhkbcfgaaGreatDoorRow
import Derived.Test.YtfjefanhkbcfgaaGreatDoorMgi
import Derived.Deep.RegionLaw
namespace Go.Proofs.YtfjefanhkbcfgaaGreatDoor.Va
open Go Go.RowKit GM
set_option linter.unusedVariables false
set_option linter.unusedSimpArgs false
section
variable {P : Program} {α : Type} {c : α → List Value} {n : Nat} {e : TypeId}
/-- append(s, x...): no block but the list's own has turned. -/
theorem wpList_appG {ops : Array Oper} {rest : List Oper} {o : Oper} {a : Act} {w : World} {Q : Exit → Act → World → Prop} (hgd : o.guard = none) (s x : Operand) (t : TypeId)
    (ho : o.op = .call { callee := .builtin .append, args := #[s, x], argTypes := #[t, t] }) (ht : P.underlying t = some (.slice e)) (z : Value) (bytes : Nat)
    (hinfo : (P.info? e).map (fun i => (i.zero, i.size, i.bytes)) = some (some z, n, bytes)) (hzs : z.cells.size = n) (hn0 : 0 < n) (hbl : 0 < bytes)
    (hn : ∀ x, (c x).length = n) (h1 : ∀ x, ∀ u ∈ c x, u.oneCell' = true)
    (B : Nat) (v : Value) (L : List α) (hs : a.eval s = v) (hown : OwnOf e c n B w v L) (A : Option Addr) (m cp : Nat) (M : List α) (hx : a.eval x = .slice A m cp) (hM : IsOf c n w A m M)
    (hl : (L.length + m) * bytes ≤ 140737488355328) (hB : B ≤ w.heap.size)
    (h : ∀ v' w', OwnOf e c n B w' v' (L ++ M) → w.grownBy w' v.ownBlock → (v'.ownBlock = v.ownBlock ∨ v'.ownBlock = some w.heap.size) → wpList P ops Q rest (a.put o.dst v') w') : wpList P ops Q (o :: rest) a w := by
  obtain ⟨i0, hi, hz0, hz1, hz2⟩ := info_parts hinfo
  refine wpList_append_any w hgd s x t ho B e i0 z n bytes ht hi hz0 hz1 hz2 hzs hn0 v L.length (L.flatMap c) hs hown w.heap.size A m cp (M.flatMap c) hx (hM.reads hn) ?_ ?_ ?_ hB ?_
  · intro u hu
    obtain ⟨y, _, hy⟩ := List.mem_flatMap.1 hu
    exact h1 y u hy
  · have : L.length + m ≤ (L.length + m) * bytes := Nat.le_mul_of_pos_right _ hbl
    unfold maxLen; omega
  · exact hl
  · intro v' w' ho' hg hr
    refine h v' w' ?_ hg hr
    unfold OwnOf
    rw [List.length_append, List.flatMap_append, hM.1]; exact ho'
end
def cellsT (s : ByteArray) : List Value := [.string s]
theorem cellsT_len (s : ByteArray) : (cellsT s).length = 1 := rfl
theorem cellsT_one (s : ByteArray) : ∀ u ∈ cellsT s, u.oneCell' = true := by
  intro u hu; simp [cellsT] at hu; subst hu; rfl
def cellsW (x : Int) : List Value := [.int .i64 x]
theorem cellsW_len (x : Int) : (cellsW x).length = 1 := rfl
theorem cellsW_one (x : Int) : ∀ u ∈ cellsW x, u.oneCell' = true := by
  intro u hu; simp [cellsW] at hu; subst hu; rfl
abbrev OwnT (B : Nat) (w : World) (v : Value) (L : List ByteArray) : Prop := OwnOf 9 cellsT 1 B w v L
abbrev OwnW (B : Nat) (w : World) (v : Value) (L : List Int) : Prop := OwnOf 2 cellsW 1 B w v L
abbrev IsT (w : World) (a : Option Addr) (n : Nat) (L : List ByteArray) : Prop := IsOf cellsT 1 w a n L
abbrev IsW (w : World) (a : Option Addr) (n : Nat) (L : List Int) : Prop := IsOf cellsW 1 w a n L
theorem infoStr : (Tryz.prog.info? 9).map (fun i => (i.zero, i.size, i.bytes)) = some (some (.string ByteArray.empty), 1, 16) := by kernel_rfl
theorem zeroS : (Value.string ByteArray.empty).cells.size = 1 := rfl
theorem infoI64 : (Tryz.prog.info? 2).map (fun i => (i.zero, i.size, i.bytes)) = some (some (.int .i64 0), 1, 8) := by kernel_rfl
theorem zeroI : (Value.int .i64 0).cells.size = 1 := rfl
/-- An element of a row of one cell each. -/
theorem isT_at {w : World} {a : Option Addr} {n : Nat} {L : List ByteArray} (h : IsT w a n L) {k : Nat} {s : ByteArray} (hk : L[k]? = some s) : k < n ∧ ∃ b off, a = some ⟨b, off, none⟩ ∧ b < w.heap.size ∧ w.cell? ⟨b, off + k, none⟩ = some (.string s) := by
  obtain ⟨hl, rfl⟩ := List.getElem?_eq_some_iff.1 hk
  have hn : k < n := h.1 ▸ hl
  obtain ⟨b, off, ha, hr⟩ := h.2 (by omega)
  refine ⟨hn, b, off, ha, hr.1, ?_⟩
  have := hr.2 k hl 0 _ rfl
  rwa [Nat.mul_one, Nat.add_zero] at this
theorem isW_at {w : World} {a : Option Addr} {n : Nat} {L : List Int} (h : IsW w a n L) {k : Nat} {s : Int} (hk : L[k]? = some s) : k < n ∧ ∃ b off, a = some ⟨b, off, none⟩ ∧ b < w.heap.size ∧ w.cell? ⟨b, off + k, none⟩ = some (.int .i64 s) := by
  obtain ⟨hl, rfl⟩ := List.getElem?_eq_some_iff.1 hk
  have hn : k < n := h.1 ▸ hl
  obtain ⟨b, off, ha, hr⟩ := h.2 (by omega)
  refine ⟨hn, b, off, ha, hr.1, ?_⟩
  have := hr.2 k hl 0 _ rfl
  rwa [Nat.mul_one, Nat.add_zero] at this
/-- A value: kind, number, text. -/
abbrev V3 := Nat × Int × ByteArray
def vOf (v : V3) : Value := .agg #[.int .u8 (v.1 : Int), .int .i64 v.2.1, .string v.2.2]
def badV : V3 := (4, 2, ⟨#[]⟩)
/-- What ftext.text makes of a string. -/
def txV (s : ByteArray) : V3 := if 256 < s.size then badV else (3, 0, s)
/-- A result that lies in a block of its own. -/
theorem b3_set {w : World} {p : Nat} {k : Nat} {n : Int} {s : ByteArray} (h : B3 w p k n s) (k' : Nat) (n' : Int) (s' : ByteArray) :
    B3 (((w.setCell ⟨p, 0, none⟩ (.int .u8 (k' : Int))).setCell ⟨p, 1, none⟩ (.int .i64 n')).setCell ⟨p, 2, none⟩ (.string s')) p k' n' s' ∧
    w.grownBy (((w.setCell ⟨p, 0, none⟩ (.int .u8 (k' : Int))).setCell ⟨p, 1, none⟩ (.int .i64 n')).setCell ⟨p, 2, none⟩ (.string s')) (some p) := by
  have := set3 w p 25 _ _ _ (.int .u8 (k' : Int)) (.int .i64 n') (.string s') h
  exact ⟨this.2, this.1⟩
theorem cnt_ok {n : Int} (h0 : 0 ≤ n) (h1 : n ≤ 1000000) : mkK (n * 10000) = 1 ∧ mkN (n * 10000) = n * 10000 := by
  have h : ¬ n * 10000 = leastI := by unfold leastI; omega
  exact ⟨if_neg h, if_neg h⟩
set_option maxHeartbeats 1600000 in
theorem ftext_any (s : ByteArray) (w : World) : Calls Tryz.prog 181 #[.string s] w fun e w' => e = .returned (vOf (txV s)) ∧ Below w.heap.size w w' := by
  have HX : Hid (B3 (w.alloc (.cells #[.int .u8 0, .int .i64 0, .string ⟨#[]⟩] 25)) w.heap.size 0 0 ⟨#[]⟩) := B3.start w 0 0 ⟨#[]⟩
  have HW := Lib.hid (valloc w (.cells #[.int .u8 0, .int .i64 0, .string ⟨#[]⟩] 25))
  go_enter Tryz.func181, Tryz.ntmps181
  by_cases h : 256 < s.size
  · have HE : Hid (txV s = badV) := by unfold Hid txV; rw [if_pos h]
    have HF : Hid (flN 2 = 2) := rfl
    go_wp2_with fail
    generalize w.alloc (.cells #[.int .u8 0, .int .i64 0, .string ⟨#[]⟩] 25) = wa at *
    refine (fail_any 2 _).mono ?_
    rw [HF.out]
    rintro e w1 ⟨rfl, hB⟩
    have hX : B3 w1 w.heap.size 0 0 ⟨#[]⟩ := HX.out.later hB
    have HBW := Lib.hid (vnext HW.out hB)
    obtain ⟨x0, x1, x2, z0, z1, z2⟩ := hX.cells
    have hXl := hX.lt
    obtain ⟨hq, hg⟩ := b3_set hX 4 2 ⟨#[]⟩
    have hb5 := HBW.out.grown hg HBW.out.size (fun q hq => by injection hq with hq; omega)
    clear hB hg
    go_wp2_with fail
    generalize ((w1.setCell ⟨w.heap.size, 0, none⟩ (.int .u8 4)).setCell ⟨w.heap.size, 1, none⟩ (.int .i64 2)).setCell ⟨w.heap.size, 2, none⟩ (.string ⟨#[]⟩) = w5 at *
    obtain ⟨y0, y1, y2, _, _, _⟩ := hq.cells
    refine bodyPost_ret (v := .agg #[.int .u8 4, .int .i64 2, .string ⟨#[]⟩]) (by simp [results, Tryz.results181, go_sem, y0, y1, y2]) rfl ⟨by rw [HE.out]; rfl, hb5⟩
  · have HE : Hid (txV s = (3, 0, s)) := by unfold Hid txV; rw [if_neg h]
    go_wp2_with fail
    refine bodyPost_ret (v := .agg #[.int .u8 3, .int .i64 0, .string s]) (by simp [results, Tryz.results181, go_sem]) rfl ⟨by rw [HE.out]; rfl, valloc _ _⟩
def cnV (n : Int) : V3 := (1, n * 10000, ⟨#[]⟩)
set_option maxHeartbeats 1600000 in
theorem fcount_any (n : Int) (h0 : 0 ≤ n) (h1 : n ≤ 1000000) (w : World) : Calls Tryz.prog 180 #[.int .i64 n] w fun e w' => e = .returned (vOf (cnV n)) ∧ Below w.heap.size w w' := by
  have HX : Hid (B3 (w.alloc (.cells #[.int .u8 0, .int .i64 0, .string ⟨#[]⟩] 25)) w.heap.size 0 0 ⟨#[]⟩) := B3.start w 0 0 ⟨#[]⟩
  have HW := Lib.hid (valloc w (.cells #[.int .u8 0, .int .i64 0, .string ⟨#[]⟩] 25))
  obtain ⟨hk, hn⟩ := cnt_ok h0 h1
  have HK := Lib.hid hk
  have HN := Lib.hid hn
  clear hk hn
  go_enter Tryz.func180, Tryz.ntmps180
  go_wp2_with fail
  generalize w.alloc (.cells #[.int .u8 0, .int .i64 0, .string ⟨#[]⟩] 25) = wa at *
  refine (make_any (n * 10000) _).mono ?_
  rw [HK.out, HN.out]
  rintro e w1 ⟨rfl, hB⟩
  have hX : B3 w1 w.heap.size 0 0 ⟨#[]⟩ := HX.out.later hB
  have HBW := Lib.hid (vnext HW.out hB)
  obtain ⟨x0, x1, x2, z0, z1, z2⟩ := hX.cells
  have hXl := hX.lt
  obtain ⟨hq, hg⟩ := b3_set hX 1 (n * 10000) ⟨#[]⟩
  have hb5 := HBW.out.grown hg HBW.out.size (fun q hq => by injection hq with hq; omega)
  clear hB hg
  go_wp2_with fail
  generalize ((w1.setCell ⟨w.heap.size, 0, none⟩ (.int .u8 1)).setCell ⟨w.heap.size, 1, none⟩ (.int .i64 (n * 10000))).setCell ⟨w.heap.size, 2, none⟩ (.string ⟨#[]⟩) = w5 at *
  obtain ⟨y0, y1, y2, _, _, _⟩ := hq.cells
  refine bodyPost_ret (v := .agg #[.int .u8 1, .int .i64 (n * 10000), .string ⟨#[]⟩]) (by simp [results, Tryz.results180, go_sem, y0, y1, y2]) rfl ⟨rfl, hb5⟩
end Go.Proofs.YtfjefanhkbcfgaaGreatDoor.Va
