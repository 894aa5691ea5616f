/- Merged: MapK V1. -/
import Derived.Test.YtfjefanhkbcfgaaGreatDoorProg
import Derived.WalkKit
import Derived.WalkSpells
import Derived.RangeFuncBox
import Derived.Test.YtfjefanhkbcfgaaGreatDoorMgd
import Derived.Test.YtfjefanhkbcfgaaGreatDoorGlyphD
import Derived.Test.YtfjefanhkbcfgaaGreatDoorTxtE
import Derived.Test.YtfjefanhkbcfgaaGreatDoorMgf
/- Small maps with integer keys: what an insertion and a look-up do. -/
namespace Go.Proofs.YtfjefanhkbcfgaaGreatDoor
open Go Go.RowKit
section
variable {P : Program}
theorem mk_getMap {w : World} {r : Nat} {es : Array MapEntry} {k : Nat} (h : w.heap[r]? = some (.map es k)) : (getObj r).run P w = .ok (.map es k) w := by simp [getObj, Sem.run, h]
theorem mk_setMap {w : World} {r : Nat} {es : Array MapEntry} {k : Nat} (h : w.heap[r]? = some (.map es k)) (o : Obj) : (setObj r o).run P w = .ok () (w.putObj r o) := by
  simp [setObj, Sem.run, h, World.putObj]
theorem mk_check {kt : TypeId} {kd : IntKind} (hu : P.underlying kt = some (.int kd)) (b : Bool) (v : Value) (w : World) : (Instr.checkKey b 10000 kt v).run P w = .ok () w := by
  show (Instr.checkKey b (9999 + 1) kt v).run P w = _
  unfold Instr.checkKey
  rw [Sem.run_bind, run_underlying hu, Result.andThen_ok]
  rfl
theorem mk_find {kt : TypeId} {kd : IntKind} (hu : P.underlying kt = some (.int kd)) {k : Value} {es : List MapEntry} {r : Option (Nat × Value)} (hf : Instr.findNow (.int kd) k es 0 = some r) (w : World) : (Instr.findKey kt k es).run P w = .ok r w := by
  unfold Instr.findKey
  rw [Sem.run_bind, run_underlying hu, Result.andThen_ok, hf]
  rfl
theorem run_mapNew {t kt et : TypeId} {kd : IntKind} (hu : P.underlying t = some (.map kt et)) (hk : P.underlying kt = some (.int kd)) {q clock : Nat} {es : Array MapEntry} {w : World} (hh : w.heap[q]? = some (.map es clock)) (k : Int) (x : Value)
    (hf : Instr.findNow (.int kd) (.int kd k) es.toList 0 = some none) : (Instr.mapUpdate t (.map (some q)) (.int kd k) x).run P w = .ok () (w.putObj q (.map (es.push { key := .int kd k, val := x, born := clock }) (clock + 1))) := by
  unfold Instr.mapUpdate
  rw [Sem.run_bind, run_underlying hu]
  simp only [Result.andThen_ok]
  rw [Sem.run_bind, mk_getMap hh]
  simp only [Result.andThen_ok]
  rw [Sem.run_bind, mk_check hk]
  simp only [Result.andThen_ok]
  rw [Sem.run_bind, mk_find hk hf]
  simp only [Result.andThen_ok]
  exact mk_setMap hh _
theorem run_lookAt {t kt et : TypeId} {kd : IntKind} (hu : P.underlying t = some (.map kt et)) (hk : P.underlying kt = some (.int kd)) {q clock : Nat} {es : Array MapEntry} {w : World} (hh : w.heap[q]? = some (.map es clock)) (k : Int) {j : Nat} {u : Value}
    (hf : Instr.findNow (.int kd) (.int kd k) es.toList 0 = some (some (j, u))) : (Instr.lookup t (.map (some q)) (.int kd k) false).run P w = .ok u w := by
  unfold Instr.lookup
  rw [Sem.run_bind, run_underlying hu]
  simp only [Result.andThen_ok, Sem.run_bind]
  rw [mk_getMap hh]
  simp only [Result.andThen_ok, Sem.run_bind, Sem.run_pure]
  rw [mk_check hk]
  simp only [Result.andThen_ok]
  rw [mk_find hk hf]
  rfl
end
end Go.Proofs.YtfjefanhkbcfgaaGreatDoor
/- Merged: ValB ValD ValE ValF ValG ValH ValI. -/
/- The contracts of Fail, Make, Truth, and of the methods that convert. -/
namespace Go.Proofs.YtfjefanhkbcfgaaGreatDoor.Va
open Go Go.RowKit GM
def flN (c : Int) : Int := if 1 ≤ c ∧ c ≤ 7 then c else 2
theorem fail_any (c : Int) (w : World) : Calls Tryz.prog 135 #[.int .i64 c] w fun e w' => e = .returned (.agg #[.int .u8 4, .int .i64 (flN c), .string ⟨#[]⟩]) ∧ Below w.heap.size w w' := by
  by_cases h1 : c < 1
  · have H : Hid (flN c = 2) := if_neg (by omega)
    generalize flN c = r at *
    go_enter Tryz.func135, Tryz.ntmps135
    go_wp2_with fail
    refine bodyPost_ret (v := .agg #[.int .u8 4, .int .i64 2, .string ⟨#[]⟩]) (by simp [results, Tryz.results135, go_sem]) rfl ⟨by rw [H.out], valloc _ _⟩
  · by_cases h2 : 7 < c
    · have H : Hid (flN c = 2) := if_neg (by omega)
      generalize flN c = r at *
      go_enter Tryz.func135, Tryz.ntmps135
      go_wp2_with fail
      refine bodyPost_ret (v := .agg #[.int .u8 4, .int .i64 2, .string ⟨#[]⟩]) (by simp [results, Tryz.results135, go_sem]) rfl ⟨by rw [H.out], valloc _ _⟩
    · have H : Hid (flN c = c) := if_pos (by omega)
      generalize flN c = r at *
      go_enter Tryz.func135, Tryz.ntmps135
      go_wp2_with fail
      refine bodyPost_ret (v := .agg #[.int .u8 4, .int .i64 c, .string ⟨#[]⟩]) (by simp [results, Tryz.results135, go_sem]) rfl ⟨by rw [H.out], valloc _ _⟩
def mkK (n : Int) : Nat := if n = leastI then 4 else 1
def mkN (n : Int) : Int := if n = leastI then 3 else n
theorem make_any (n : Int) (w : World) : Calls Tryz.prog 74 #[.int .i64 n] w fun e w' => e = .returned (.agg #[.int .u8 (mkK n : Int), .int .i64 (mkN n), .string ⟨#[]⟩]) ∧ Below w.heap.size w w' := by
  have HX : Hid (B3 (w.alloc (.cells #[.int .u8 0, .int .i64 0, .string ⟨#[]⟩] 25)) w.heap.size 0 0 ⟨#[]⟩) := B3.start w 0 0 ⟨#[]⟩
  have HW := Lib.hid (valloc w (.cells #[.int .u8 0, .int .i64 0, .string ⟨#[]⟩] 25))
  by_cases h : n = -9223372036854775808
  · have H1 : Hid (mkK n = 4) := if_pos h
    have H2 : Hid (mkN n = 3) := if_pos h
    have HF : Hid (flN 3 = 3) := rfl
    generalize mkK n = x at *
    generalize mkN n = y at *
    subst h
    go_enter Tryz.func74, Tryz.ntmps74
    go_wp2_with fail
    generalize w.alloc (.cells #[.int .u8 0, .int .i64 0, .string ⟨#[]⟩] 25) = wa at *
    refine (fail_any 3 _).mono ?_
    rw [HF.out]
    rintro e w1 ⟨rfl, hB⟩
    have hX : B3 w1 w.heap.size 0 0 ⟨#[]⟩ := HX.out.later hB
    have HBW := Lib.hid (vnext HW.out hB)
    clear hB
    obtain ⟨x0, x1, x2, z0, z1, z2⟩ := hX.cells
    have hXl := hX.lt
    have hq : B3 (((w1.setCell ⟨w.heap.size, 0, none⟩ (.int .u8 4)).setCell ⟨w.heap.size, 1, none⟩ (.int .i64 3)).setCell ⟨w.heap.size, 2, none⟩ (.string ⟨#[]⟩)) w.heap.size 4 3 ⟨#[]⟩ ∧ w1.grownBy (((w1.setCell ⟨w.heap.size, 0, none⟩ (.int .u8 4)).setCell ⟨w.heap.size, 1, none⟩ (.int .i64 3)).setCell ⟨w.heap.size, 2, none⟩ (.string ⟨#[]⟩)) (some (w.heap.size)) := hX.set 4 3 ⟨#[]⟩
    have hb5 := HBW.out.grown hq.2 HBW.out.size (fun q hq => by injection hq with hq; omega)
    obtain ⟨hq, _⟩ := hq
    go_wp2_with fail
    generalize ((w1.setCell ⟨w.heap.size, 0, none⟩ (.int .u8 4)).setCell ⟨w.heap.size, 1, none⟩ (.int .i64 3)).setCell ⟨w.heap.size, 2, none⟩ (.string ⟨#[]⟩) = w5 at *
    obtain ⟨y0, y1, y2, _, _, _⟩ := hq.cells
    refine bodyPost_ret (v := .agg #[.int .u8 4, .int .i64 3, .string ⟨#[]⟩]) (by simp [results, Tryz.results74, go_sem, y0, y1, y2]) rfl ⟨by rw [H1.out, H2.out]; rfl, hb5⟩
  · have H1 : Hid (mkK n = 1) := if_neg h
    have H2 : Hid (mkN n = n) := if_neg h
    have h2 : (n == -9223372036854775808) = false := by simpa using h
    generalize mkK n = x at *
    generalize mkN n = y at *
    clear h HX HW
    go_enter Tryz.func74, Tryz.ntmps74
    go_wp2_with fail
    refine bodyPost_ret (v := .agg #[.int .u8 1, .int .i64 n, .string ⟨#[]⟩]) (by simp [results, Tryz.results74, go_sem]) rfl ⟨by rw [H1.out, H2.out]; rfl, valloc _ _⟩
def b2i (b : Bool) : Int := if b then 1 else 0
theorem truth_any (b : Bool) (w : World) : Calls Tryz.prog 60 #[.bool b] w fun e w' => e = .returned (.agg #[.int .u8 2, .int .i64 (b2i b), .string ⟨#[]⟩]) ∧ Below w.heap.size w w' := by
  cases b
  · have H : Hid (b2i false = 0) := rfl
    generalize b2i false = x at *
    go_enter Tryz.func60, Tryz.ntmps60
    go_wp2_with fail
    refine bodyPost_ret (v := .agg #[.int .u8 2, .int .i64 0, .string ⟨#[]⟩]) (by simp [results, Tryz.results60, go_sem]) rfl ⟨by rw [H.out], valloc _ _⟩
  · have H : Hid (b2i true = 1) := rfl
    generalize b2i true = x at *
    go_enter Tryz.func60, Tryz.ntmps60
    go_wp2_with fail
    refine bodyPost_ret (v := .agg #[.int .u8 2, .int .i64 1, .string ⟨#[]⟩]) (by simp [results, Tryz.results60, go_sem]) rfl ⟨by rw [H.out], valloc _ _⟩
end Go.Proofs.YtfjefanhkbcfgaaGreatDoor.Va
/- The contracts of the methods that convert: truth, number, text. -/
namespace Go.Proofs.YtfjefanhkbcfgaaGreatDoor.Va
open Go Go.RowKit GM
theorem tr_le (e p : Bool) (l : List UInt8) : (tr e p l).length ≤ l.length + (if p then 1 else 0) := by
  induction l generalizing e p with
  | nil => simp [tr]
  | cons c l ih =>
    have h1 : (tr true false l).length ≤ l.length := by simpa using ih true false
    have h2 : (tr e true l).length ≤ l.length + 1 := by simpa using ih e true
    clear ih
    unfold tr
    split
    · simp only [List.length_cons]; omega
    · cases e <;> cases p <;> simp <;> omega
theorem trim_le (l : List UInt8) : (trim l).length ≤ l.length := by
  have := tr_le false false l
  simpa [trim] using this
def trR (k : Nat) (n : Int) (s : ByteArray) : Nat × Int := if k = 3 then (if upS s = ⟨#[84, 82, 85, 69]⟩ then (2, 1) else if upS s = ⟨#[70, 65, 76, 83, 69]⟩ then (2, 0) else (4, 2)) else (2, if n = 0 then 0 else 1)
def nbR (k : Nat) (n : Int) (s : ByteArray) : Nat × Int := if k = 3 then (if Tx.parE (trim s.data.toList) = 0 then (mkK (Tx.parV (trim s.data.toList)), mkN (Tx.parV (trim s.data.toList))) else if Tx.parE (trim s.data.toList) = 3 then (4, 3) else (4, 2)) else (mkK (n * 10000), mkN (n * 10000))
end Go.Proofs.YtfjefanhkbcfgaaGreatDoor.Va
/- The contract of the method text. -/
namespace Go.Proofs.YtfjefanhkbcfgaaGreatDoor.Va
open Go Go.RowKit GM
attribute [local simp] DepA isB rsAt
end Go.Proofs.YtfjefanhkbcfgaaGreatDoor.Va
/- The contracts of converted, ToNumber, ToText and ToBool. -/
namespace Go.Proofs.YtfjefanhkbcfgaaGreatDoor.Va
open Go Go.RowKit GM
def cvR (kd : Nat) (k : Nat) (n : Int) (s : ByteArray) : Nat × Int × ByteArray :=
  if vE k n s.data.toList = 0 then
    (if k = kd ∨ k = 4 then (k, n, s)
     else if kd = 1 then ((nbR k n s).1, (nbR k n s).2, ⟨#[]⟩)
     else if kd = 2 then ((trR k n s).1, (trR k n s).2, ⟨#[]⟩)
     else (3, 0, if k = 1 then ⟨(Tx.fmtL n).toArray⟩ else if k = 2 then (if n = 1 then ⟨#[84, 82, 85, 69]⟩ else ⟨#[70, 65, 76, 83, 69]⟩) else ⟨#[]⟩))
  else (4, 2, ⟨#[]⟩)
theorem vE_two (k : Nat) (n : Int) (l : List UInt8) (h : vE k n l ≠ 0) : vE k n l = 2 := by
  unfold vE at *
  split at h
  · exact absurd rfl h
  · rename_i h2; rw [if_neg h2]
end Go.Proofs.YtfjefanhkbcfgaaGreatDoor.Va
/- The contracts of ToNumber, ToText and ToBool. -/
namespace Go.Proofs.YtfjefanhkbcfgaaGreatDoor.Va
open Go Go.RowKit GM
theorem vld_sort {k : Nat} {n : Int} {s : ByteArray} (h : vE k n s.data.toList = 0) : (k = 0 ∧ n = 0 ∧ s = ⟨#[]⟩) ∨ (k = 1 ∧ n ≠ leastI ∧ s = ⟨#[]⟩) ∨ (k = 2 ∧ (n = 0 ∨ n = 1) ∧ s = ⟨#[]⟩) ∨ (k = 3 ∧ n = 0) ∨ (k = 4 ∧ (1 ≤ n ∧ n ≤ 6) ∧ s = ⟨#[]⟩) := by
  have hv : vldV k n s.data.toList = true := by
    unfold vE at h
    split at h
    · assumption
    · omega
  have emp : s.data.toList.isEmpty = true → s = ⟨#[]⟩ := fun e => ByteArray.ext (by simpa using e)
  unfold vldV at hv
  split at hv
  · simp only [Bool.and_eq_true, decide_eq_true_eq] at hv; exact .inl ⟨by assumption, hv.1, emp hv.2⟩
  split at hv
  · simp only [Bool.and_eq_true, decide_eq_true_eq] at hv; exact .inr (.inl ⟨by assumption, hv.1, emp hv.2⟩)
  split at hv
  · simp only [Bool.and_eq_true, decide_eq_true_eq] at hv; exact .inr (.inr (.inl ⟨by assumption, hv.1, emp hv.2⟩))
  split at hv
  · simp only [Bool.and_eq_true, decide_eq_true_eq] at hv; exact .inr (.inr (.inr (.inl ⟨by assumption, hv.1⟩)))
  split at hv
  · simp only [Bool.and_eq_true, decide_eq_true_eq] at hv; exact .inr (.inr (.inr (.inr ⟨by assumption, hv.1, emp hv.2⟩)))
  · cases hv
theorem maxLen_of {s : ByteArray} (h : s.size ≤ 2000) : s.size ≤ maxLen := by unfold maxLen; omega
end Go.Proofs.YtfjefanhkbcfgaaGreatDoor.Va
/- The arithmetic of what converts: kinds, and what a second conversion gives. -/
namespace Go.Proofs.YtfjefanhkbcfgaaGreatDoor.Va
open Go Go.RowKit GM
theorem vE_err {n : Int} (h : 1 ≤ n ∧ n ≤ 6) : vE 4 n [] = 0 := by unfold vE vldV; simp [h]
theorem vE_num {n : Int} (h : n ≠ leastI) : vE 1 n [] = 0 := by unfold vE vldV; simp [h]
/-- A value of the kind, or an error, stays as it is. -/
theorem cv_same {kd k : Nat} {n : Int} {s : ByteArray} (h : vE k n s.data.toList = 0) (hk : k = kd ∨ k = 4) : cvR kd k n s = (k, n, s) := by
  unfold cvR; rw [if_pos h, if_pos hk]
theorem chk_fmt {n : Int} (hi : InI n) : chk (Tx.fmtL n) = 0 := by
  have hl := Tx.fmt_len n
  have hd : (Lib.decDigits (n.natAbs / 10000)).length ≤ 20 := Tx.dd_len (by unfold InI at hi; omega)
  have hf := Tx.frac_le (n.natAbs % 10000)
  have hlen : ¬ 256 < (Tx.fmtL n).length := by
    rw [hl]; split <;> omega
  have dg : ∀ c : UInt8, Tx.isDg c = true → 32 ≤ c.toNat ∧ c.toNat ≤ 126 := fun c h => by
    unfold Tx.isDg at h
    have := of_decide_eq_true h
    omega
  have hp : plain (Tx.fmtL n) = true := by
    unfold plain
    rw [List.all_eq_true]
    intro c hc
    have key : 32 ≤ c.toNat ∧ c.toNat ≤ 126 := by
      unfold Tx.fmtL at hc
      rcases List.mem_append.1 hc with h | h
      · split at h
        · have : c = 45 := by simpa using h
          subst this; decide
        · cases h
      · rcases List.mem_append.1 h with h | h
        · exact dg c (Tx.dd_dg _ c h)
        · unfold Tx.fracL at h
          split at h
          · cases h
          · rcases List.mem_cons.1 h with h | h
            · subst h; decide
            · exact dg c (Tx.trimZ_dg (Tx.frD_dg _) c h)
    simp [key.1, key.2]
  unfold chk
  rw [if_neg hlen, if_pos hp]
/-- A text, or an error. -/
theorem cv3_ok (k : Nat) (n : Int) (s : ByteArray) (hi : InI n) : vE (cvR 3 k n s).1 (cvR 3 k n s).2.1 (cvR 3 k n s).2.2.data.toList = 0 ∧ ((cvR 3 k n s).1 = 3 ∨ (cvR 3 k n s).1 = 4) := by
  have tx : ∀ l : List UInt8, chk l = 0 → vE 3 0 l = 0 := fun l h => by unfold vE vldV; simp [h]
  unfold cvR
  split
  · rename_i h0
    split
    · rename_i h1; exact ⟨h0, h1⟩
    · rw [if_neg (by omega), if_neg (by omega)]
      refine ⟨?_, .inl rfl⟩
      split
      · exact tx _ (by show chk (Tx.fmtL n).toArray.toList = 0; rw [List.toList_toArray]; exact chk_fmt hi)
      · split
        · split
          · exact tx _ (by decide)
          · exact tx _ (by decide)
        · exact tx _ (by decide)
  · exact ⟨vE_err (n := 2) (by omega), .inr rfl⟩
end Go.Proofs.YtfjefanhkbcfgaaGreatDoor.Va
/- The arithmetic of conversions there and back. -/
namespace Go.Proofs.YtfjefanhkbcfgaaGreatDoor.Va
open Go Go.RowKit GM
/-- The text of a number. -/
theorem cv3_num {n : Int} (h : n ≠ leastI) : cvR 3 1 n ⟨#[]⟩ = (3, 0, ⟨(Tx.fmtL n).toArray⟩) := by
  unfold cvR
  rw [if_pos (show vE 1 n (⟨#[]⟩ : ByteArray).data.toList = 0 from vE_num h), if_neg (by omega), if_neg (by omega), if_neg (by omega), if_pos rfl]
theorem cv3_true : cvR 3 2 1 ⟨#[]⟩ = (3, 0, ⟨#[84, 82, 85, 69]⟩) := by decide
theorem cv3_false : cvR 3 2 0 ⟨#[]⟩ = (3, 0, ⟨#[70, 65, 76, 83, 69]⟩) := by decide
end Go.Proofs.YtfjefanhkbcfgaaGreatDoor.Va
