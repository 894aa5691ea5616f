/- Merged: V1 FtA FtB FtD. -/
import Derived.Test.YtdhahiodnmmkeaaGreatDoorValC
import Derived.Test.YtdhahiodnmmkeaaGreatDoorMgc
import Derived.Test.YtdhahiodnmmkeaaGreatDoorTxtE
import Derived.Test.YtdhahiodnmmkeaaGreatDoorMapK
import Derived.Test.YtdhahiodnmmkeaaGreatDoorMge
import Derived.Test.YtdhahiodnmmkeaaGreatDoorRow
import Derived.Deep.RegionLaw
import Derived.Test.YtdhahiodnmmkeaaGreatDoorMga
import Derived.Test.YtdhahiodnmmkeaaGreatDoorMgd
import Derived.BigQuiet
/- Merged: ValB ValD ValE ValF ValG ValH ValI. -/
/- The contracts of Fail, Make, Truth, and of the methods that convert. -/
namespace Go.Proofs.YtdhahiodnmmkeaaGreatDoor.Va
open Go Go.RowKit GM
def flN (c : Int) : Int := if 1 ≤ c ∧ c ≤ 7 then c else 2
theorem zb3 (c : Int) (w : World) : Calls Tryz.prog 87 #[.int .i64 c] w fun e w' => e = .returned (.agg #[.int .u8 4, .int .i64 (flN c), .string ⟨#[]⟩]) ∧ Below w.heap.size w w' := by
 by_cases h1 : c < 1
 · have H : Hid (flN c = 2) := if_neg (by omega)
   generalize flN c = r at *
   go_enter Tryz.func87, Tryz.ntmps87
   go_wp2_with fail
   refine bodyPost_ret (v := .agg #[.int .u8 4, .int .i64 2, .string ⟨#[]⟩]) (by simp [results, Tryz.results87, go_sem]) rfl ⟨by rw [H.out], zaa _ _⟩
 · by_cases h2 : 7 < c
   · have H : Hid (flN c = 2) := if_neg (by omega)
     generalize flN c = r at *
     go_enter Tryz.func87, Tryz.ntmps87
     go_wp2_with fail
     refine bodyPost_ret (v := .agg #[.int .u8 4, .int .i64 2, .string ⟨#[]⟩]) (by simp [results, Tryz.results87, go_sem]) rfl ⟨by rw [H.out], zaa _ _⟩
   · have H : Hid (flN c = c) := if_pos (by omega)
     generalize flN c = r at *
     go_enter Tryz.func87, Tryz.ntmps87
     go_wp2_with fail
     refine bodyPost_ret (v := .agg #[.int .u8 4, .int .i64 c, .string ⟨#[]⟩]) (by simp [results, Tryz.results87, go_sem]) rfl ⟨by rw [H.out], zaa _ _⟩
def mkK (n : Int) : Nat := if n = zau then 4 else 1
def mkN (n : Int) : Int := if n = zau then 3 else n
theorem zyr (n : Int) (w : World) : Calls Tryz.prog 101 #[.int .i64 n] w fun e w' => e = .returned (.agg #[.int .u8 (mkK n : Int), .int .i64 (mkN n), .string ⟨#[]⟩]) ∧ Below w.heap.size w w' := by
 have HX : Hid (B3 (w.alloc (.cells #[.int .u8 0, .int .i64 0, .string ⟨#[]⟩] 26)) w.heap.size 0 0 ⟨#[]⟩) := B3.start w 0 0 ⟨#[]⟩
 have HW := Lib.hid (zaa w (.cells #[.int .u8 0, .int .i64 0, .string ⟨#[]⟩] 26))
 by_cases h : n = -9223372036854775808
 · have H1 : Hid (mkK n = 4) := if_pos h
   have H2 : Hid (mkN n = 3) := if_pos h
   have HF : Hid (flN 3 = 3) := rfl
   generalize mkK n = x at *
   generalize mkN n = y at *
   subst h
   go_enter Tryz.func101, Tryz.ntmps101
   go_wp2_with fail
   generalize w.alloc (.cells #[.int .u8 0, .int .i64 0, .string ⟨#[]⟩] 26) = wa at *
   refine (zb3 3 _).mono ?_
   rw [HF.out]
   rintro e w1 ⟨rfl, hB⟩
   have hX : B3 w1 w.heap.size 0 0 ⟨#[]⟩ := HX.out.later hB
   have HBW := Lib.hid (zab HW.out hB)
   clear hB
   obtain ⟨x0, x1, x2, z0, z1, z2⟩ := hX.cells
   have hXl := hX.lt
   have hq : B3 (((w1.setCell ⟨w.heap.size, 0, none⟩ (.int .u8 4)).setCell ⟨w.heap.size, 1, none⟩ (.int .i64 3)).setCell ⟨w.heap.size, 2, none⟩ (.string ⟨#[]⟩)) w.heap.size 4 3 ⟨#[]⟩ ∧ w1.grownBy (((w1.setCell ⟨w.heap.size, 0, none⟩ (.int .u8 4)).setCell ⟨w.heap.size, 1, none⟩ (.int .i64 3)).setCell ⟨w.heap.size, 2, none⟩ (.string ⟨#[]⟩)) (some (w.heap.size)) := hX.set 4 3 ⟨#[]⟩
   have hb5 := HBW.out.grown hq.2 HBW.out.size (fun q hq => by injection hq with hq; omega)
   obtain ⟨hq, _⟩ := hq
   go_wp2_with fail
   generalize ((w1.setCell ⟨w.heap.size, 0, none⟩ (.int .u8 4)).setCell ⟨w.heap.size, 1, none⟩ (.int .i64 3)).setCell ⟨w.heap.size, 2, none⟩ (.string ⟨#[]⟩) = w5 at *
   obtain ⟨y0, y1, y2, _, _, _⟩ := hq.cells
   refine bodyPost_ret (v := .agg #[.int .u8 4, .int .i64 3, .string ⟨#[]⟩]) (by simp [results, Tryz.results101, go_sem, y0, y1, y2]) rfl ⟨by rw [H1.out, H2.out]; rfl, hb5⟩
 · have H1 : Hid (mkK n = 1) := if_neg h
   have H2 : Hid (mkN n = n) := if_neg h
   have h2 : (n == -9223372036854775808) = false := by simpa using h
   generalize mkK n = x at *
   generalize mkN n = y at *
   clear h HX HW
   go_enter Tryz.func101, Tryz.ntmps101
   go_wp2_with fail
   refine bodyPost_ret (v := .agg #[.int .u8 1, .int .i64 n, .string ⟨#[]⟩]) (by simp [results, Tryz.results101, go_sem]) rfl ⟨by rw [H1.out, H2.out]; rfl, zaa _ _⟩
def b2i (b : Bool) : Int := if b then 1 else 0
theorem zt3 (b : Bool) (w : World) : Calls Tryz.prog 51 #[.bool b] w fun e w' => e = .returned (.agg #[.int .u8 2, .int .i64 (b2i b), .string ⟨#[]⟩]) ∧ Below w.heap.size w w' := by
 cases b
 · have H : Hid (b2i false = 0) := rfl
   generalize b2i false = x at *
   go_enter Tryz.func51, Tryz.ntmps51
   go_wp2_with fail
   refine bodyPost_ret (v := .agg #[.int .u8 2, .int .i64 0, .string ⟨#[]⟩]) (by simp [results, Tryz.results51, go_sem]) rfl ⟨by rw [H.out], zaa _ _⟩
 · have H : Hid (b2i true = 1) := rfl
   generalize b2i true = x at *
   go_enter Tryz.func51, Tryz.ntmps51
   go_wp2_with fail
   refine bodyPost_ret (v := .agg #[.int .u8 2, .int .i64 1, .string ⟨#[]⟩]) (by simp [results, Tryz.results51, go_sem]) rfl ⟨by rw [H.out], zaa _ _⟩
end Go.Proofs.YtdhahiodnmmkeaaGreatDoor.Va
/- The contracts of the methods that convert: truth, number, text. -/
namespace Go.Proofs.YtdhahiodnmmkeaaGreatDoor.Va
open Go Go.RowKit GM
theorem yhb (e p : Bool) (l : List UInt8) : (tr e p l).length ≤ l.length + (if p then 1 else 0) := by
 induction l generalizing e p with
 | nil => simp [tr]
 | cons c l ih =>
  have h1 : (tr true false l).length ≤ l.length := by simpa using ih true false
  have h2 : (tr e true l).length ≤ l.length + 1 := by simpa using ih e true
  clear ih
  unfold tr
  split
  · simp only [List.length_cons]; omega
  · cases e <;> cases p <;> simp <;> omega
theorem zt6 (l : List UInt8) : (trim l).length ≤ l.length := by
 have := yhb false false l
 simpa [trim] using this
def trR (k : Nat) (n : Int) (s : ByteArray) : Nat × Int := if k = 3 then (if upS s = ⟨#[84, 82, 85, 69]⟩ then (2, 1) else if upS s = ⟨#[70, 65, 76, 83, 69]⟩ then (2, 0) else (4, 2)) else (2, if n = 0 then 0 else 1)
def nbR (k : Nat) (n : Int) (s : ByteArray) : Nat × Int := if k = 3 then (if Tx.parE (trim s.data.toList) = 0 then (mkK (Tx.parV (trim s.data.toList)), mkN (Tx.parV (trim s.data.toList))) else if Tx.parE (trim s.data.toList) = 3 then (4, 3) else (4, 2)) else (mkK (n * 10000), mkN (n * 10000))
end Go.Proofs.YtdhahiodnmmkeaaGreatDoor.Va
/- The contract of the method text. -/
namespace Go.Proofs.YtdhahiodnmmkeaaGreatDoor.Va
open Go Go.RowKit GM
attribute [local simp] DepA isB rsAt
end Go.Proofs.YtdhahiodnmmkeaaGreatDoor.Va
/- The contracts of converted, ToNumber, ToText and ToBool. -/
namespace Go.Proofs.YtdhahiodnmmkeaaGreatDoor.Va
open Go Go.RowKit GM
def cvR (kd : Nat) (k : Nat) (n : Int) (s : ByteArray) : Nat × Int × ByteArray :=
 if vE k n s.data.toList = 0 then
  (if k = kd ∨ k = 4 then (k, n, s)
   else if kd = 1 then ((nbR k n s).1, (nbR k n s).2, ⟨#[]⟩)
   else if kd = 2 then ((trR k n s).1, (trR k n s).2, ⟨#[]⟩)
   else (3, 0, if k = 1 then ⟨(Tx.fmtL n).toArray⟩ else if k = 2 then (if n = 1 then ⟨#[84, 82, 85, 69]⟩ else ⟨#[70, 65, 76, 83, 69]⟩) else ⟨#[]⟩))
 else (4, 2, ⟨#[]⟩)
theorem zql (k : Nat) (n : Int) (l : List UInt8) (h : vE k n l ≠ 0) : vE k n l = 2 := by
 unfold vE at *
 split at h
 · exact absurd rfl h
 · rename_i h2; rw [if_neg h2]
end Go.Proofs.YtdhahiodnmmkeaaGreatDoor.Va
/- The contracts of ToNumber, ToText and ToBool. -/
namespace Go.Proofs.YtdhahiodnmmkeaaGreatDoor.Va
open Go Go.RowKit GM
theorem zh3 {k : Nat} {n : Int} {s : ByteArray} (h : vE k n s.data.toList = 0) : (k = 0 ∧ n = 0 ∧ s = ⟨#[]⟩) ∨ (k = 1 ∧ n ≠ zau ∧ s = ⟨#[]⟩) ∨ (k = 2 ∧ (n = 0 ∨ n = 1) ∧ s = ⟨#[]⟩) ∨ (k = 3 ∧ n = 0) ∨ (k = 4 ∧ (1 ≤ n ∧ n ≤ 6) ∧ s = ⟨#[]⟩) := by
 have hv : vldV k n s.data.toList = true := by
  unfold vE at h
  split at h
  · assumption
  · omega
 have emp : s.data.toList.isEmpty = true → s = ⟨#[]⟩ := fun e => ByteArray.ext (by simpa using e)
 unfold vldV at hv
 split at hv
 · simp only [Bool.and_eq_true, decide_eq_true_eq] at hv; exact .inl ⟨by assumption, hv.1, emp hv.2⟩
 split at hv
 · simp only [Bool.and_eq_true, decide_eq_true_eq] at hv; exact .inr (.inl ⟨by assumption, hv.1, emp hv.2⟩)
 split at hv
 · simp only [Bool.and_eq_true, decide_eq_true_eq] at hv; exact .inr (.inr (.inl ⟨by assumption, hv.1, emp hv.2⟩))
 split at hv
 · simp only [Bool.and_eq_true, decide_eq_true_eq] at hv; exact .inr (.inr (.inr (.inl ⟨by assumption, hv.1⟩)))
 split at hv
 · simp only [Bool.and_eq_true, decide_eq_true_eq] at hv; exact .inr (.inr (.inr (.inr ⟨by assumption, hv.1, emp hv.2⟩)))
 · cases hv
theorem zeo {s : ByteArray} (h : s.size ≤ 2000) : s.size ≤ maxLen := by unfold maxLen; omega
end Go.Proofs.YtdhahiodnmmkeaaGreatDoor.Va
/- The arithmetic of what converts: kinds, and what a second conversion gives. -/
namespace Go.Proofs.YtdhahiodnmmkeaaGreatDoor.Va
open Go Go.RowKit GM
theorem yfo {n : Int} (h : 1 ≤ n ∧ n ≤ 6) : vE 4 n [] = 0 := by unfold vE vldV; simp [h]
theorem yfn {n : Int} (h : n ≠ zau) : vE 1 n [] = 0 := by unfold vE vldV; simp [h]
theorem zmy {kd k : Nat} {n : Int} {s : ByteArray} (h : vE k n s.data.toList = 0) (hk : k = kd ∨ k = 4) : cvR kd k n s = (k, n, s) := by
 unfold cvR; rw [if_pos h, if_pos hk]
theorem yey {n : Int} (hi : InI n) : chk (Tx.fmtL n) = 0 := by
 have hl := Tx.fmt_len n
 have hd : (Lib.decDigits (n.natAbs / 10000)).length ≤ 20 := Tx.dd_len (by unfold InI at hi; omega)
 have hf := Tx.frac_le (n.natAbs % 10000)
 have hlen : ¬ 256 < (Tx.fmtL n).length := by
  rw [hl]; split <;> omega
 have dg : ∀ c : UInt8, Tx.isDg c = true → 32 ≤ c.toNat ∧ c.toNat ≤ 126 := fun c h => by
  unfold Tx.isDg at h
  have := of_decide_eq_true h
  omega
 have hp : plain (Tx.fmtL n) = true := by
  unfold plain
  rw [List.all_eq_true]
  intro c hc
  have key : 32 ≤ c.toNat ∧ c.toNat ≤ 126 := by
   unfold Tx.fmtL at hc
   rcases List.mem_append.1 hc with h | h
   · split at h
     · have : c = 45 := by simpa using h
       subst this; decide
     · cases h
   · rcases List.mem_append.1 h with h | h
     · exact dg c (Tx.dd_dg _ c h)
     · unfold Tx.fracL at h
       split at h
       · cases h
       · rcases List.mem_cons.1 h with h | h
         · subst h; decide
         · exact dg c (Tx.trimZ_dg (Tx.frD_dg _) c h)
  simp [key.1, key.2]
 unfold chk
 rw [if_neg hlen, if_pos hp]
theorem ygm (k : Nat) (n : Int) (s : ByteArray) (hi : InI n) : vE (cvR 3 k n s).1 (cvR 3 k n s).2.1 (cvR 3 k n s).2.2.data.toList = 0 ∧ ((cvR 3 k n s).1 = 3 ∨ (cvR 3 k n s).1 = 4) := by
 have tx : ∀ l : List UInt8, chk l = 0 → vE 3 0 l = 0 := fun l h => by unfold vE vldV; simp [h]
 unfold cvR
 split
 · rename_i h0
   split
   · rename_i h1; exact ⟨h0, h1⟩
   · rw [if_neg (by omega), if_neg (by omega)]
     refine ⟨?_, .inl rfl⟩
     split
     · exact tx _ (by show chk (Tx.fmtL n).toArray.toList = 0; rw [List.toList_toArray]; exact yey hi)
     · split
       · split
         · exact tx _ (by decide)
         · exact tx _ (by decide)
       · exact tx _ (by decide)
 · exact ⟨yfo (n := 2) (by omega), .inr rfl⟩
end Go.Proofs.YtdhahiodnmmkeaaGreatDoor.Va
/- The arithmetic of conversions there and back. -/
namespace Go.Proofs.YtdhahiodnmmkeaaGreatDoor.Va
open Go Go.RowKit GM
theorem zwq {n : Int} (h : n ≠ zau) : cvR 3 1 n ⟨#[]⟩ = (3, 0, ⟨(Tx.fmtL n).toArray⟩) := by
 unfold cvR
 rw [if_pos (show vE 1 n (⟨#[]⟩ : ByteArray).data.toList = 0 from yfn h), if_neg (by omega), if_neg (by omega), if_neg (by omega), if_pos rfl]
theorem zry : cvR 3 2 1 ⟨#[]⟩ = (3, 0, ⟨#[84, 82, 85, 69]⟩) := by decide
theorem zof : cvR 3 2 0 ⟨#[]⟩ = (3, 0, ⟨#[70, 65, 76, 83, 69]⟩) := by decide
end Go.Proofs.YtdhahiodnmmkeaaGreatDoor.Va
/- ftext: rows of strings and of numbers; text and count. -/
namespace Go.Proofs.YtdhahiodnmmkeaaGreatDoor.Va
open Go Go.RowKit GM
set_option linter.unusedVariables false
set_option linter.unusedSimpArgs false
section
variable {P : Program} {α : Type} {c : α → List Value} {n : Nat} {e : TypeId}
theorem zdt {ops : Array Oper} {rest : List Oper} {o : Oper} {a : Act} {w : World} {Q : Exit → Act → World → Prop} (hgd : o.guard = none) (s x : Operand) (t : TypeId)
 (ho : o.op = .call { callee := .builtin .append, args := #[s, x], argTypes := #[t, t] }) (ht : P.underlying t = some (.slice e)) (z : Value) (bytes : Nat)
 (hinfo : (P.info? e).map (fun i => (i.zero, i.size, i.bytes)) = some (some z, n, bytes)) (hzs : z.cells.size = n) (hn0 : 0 < n) (hbl : 0 < bytes)
 (hn : ∀ x, (c x).length = n) (h1 : ∀ x, ∀ u ∈ c x, u.oneCell' = true)
 (B : Nat) (v : Value) (L : List α) (hs : a.eval s = v) (hown : OwnOf e c n B w v L) (A : Option Addr) (m cp : Nat) (M : List α) (hx : a.eval x = .slice A m cp) (hM : IsOf c n w A m M)
 (hl : (L.length + m) * bytes ≤ 140737488355328) (hB : B ≤ w.heap.size)
 (h : ∀ v' w', OwnOf e c n B w' v' (L ++ M) → w.grownBy w' v.ownBlock → (v'.ownBlock = v.ownBlock ∨ v'.ownBlock = some w.heap.size) → wpList P ops Q rest (a.put o.dst v') w') : wpList P ops Q (o :: rest) a w := by
 obtain ⟨i0, hi, hz0, hz1, hz2⟩ := info_parts hinfo
 refine zdf w hgd s x t ho B e i0 z n bytes ht hi hz0 hz1 hz2 hzs hn0 v L.length (L.flatMap c) hs hown w.heap.size A m cp (M.flatMap c) hx (hM.reads hn) ?_ ?_ ?_ hB ?_
 · intro u hu
   obtain ⟨y, _, hy⟩ := List.mem_flatMap.1 hu
   exact h1 y u hy
 · have : L.length + m ≤ (L.length + m) * bytes := Nat.le_mul_of_pos_right _ hbl
   unfold maxLen; omega
 · exact hl
 · intro v' w' ho' hg hr
   refine h v' w' ?_ hg hr
   unfold OwnOf
   rw [List.length_append, List.flatMap_append, hM.1]; exact ho'
end
def zok (s : ByteArray) : List Value := [.string s]
theorem zaq (s : ByteArray) : (zok s).length = 1 := rfl
theorem zlp (s : ByteArray) : ∀ u ∈ zok s, u.oneCell' = true := by
 intro u hu; simp [zok] at hu; subst hu; rfl
def zln (x : Int) : List Value := [.int .i64 x]
theorem zap (x : Int) : (zln x).length = 1 := rfl
theorem zhe (x : Int) : ∀ u ∈ zln x, u.oneCell' = true := by
 intro u hu; simp [zln] at hu; subst hu; rfl
abbrev OwnT (B : Nat) (w : World) (v : Value) (L : List ByteArray) : Prop := OwnOf 9 zok 1 B w v L
abbrev OwnW (B : Nat) (w : World) (v : Value) (L : List Int) : Prop := OwnOf 2 zln 1 B w v L
abbrev IsT (w : World) (a : Option Addr) (n : Nat) (L : List ByteArray) : Prop := IsOf zok 1 w a n L
abbrev IsW (w : World) (a : Option Addr) (n : Nat) (L : List Int) : Prop := IsOf zln 1 w a n L
theorem zv3 : (Tryz.prog.info? 9).map (fun i => (i.zero, i.size, i.bytes)) = some (some (.string ByteArray.empty), 1, 16) := by kernel_rfl
theorem yfj : (Value.string ByteArray.empty).cells.size = 1 := rfl
theorem zv4 : (Tryz.prog.info? 2).map (fun i => (i.zero, i.size, i.bytes)) = some (some (.int .i64 0), 1, 8) := by kernel_rfl
theorem ybo : (Value.int .i64 0).cells.size = 1 := rfl
theorem zbb {w : World} {a : Option Addr} {n : Nat} {L : List ByteArray} (h : IsT w a n L) {k : Nat} {s : ByteArray} (hk : L[k]? = some s) : k < n ∧ ∃ b off, a = some ⟨b, off, none⟩ ∧ b < w.heap.size ∧ w.cell? ⟨b, off + k, none⟩ = some (.string s) := by
 obtain ⟨hl, rfl⟩ := List.getElem?_eq_some_iff.1 hk
 have hn : k < n := h.1 ▸ hl
 obtain ⟨b, off, ha, hr⟩ := h.2 (by omega)
 refine ⟨hn, b, off, ha, hr.1, ?_⟩
 have := hr.2 k hl 0 _ rfl
 rwa [Nat.mul_one, Nat.add_zero] at this
theorem zd8 {w : World} {a : Option Addr} {n : Nat} {L : List Int} (h : IsW w a n L) {k : Nat} {s : Int} (hk : L[k]? = some s) : k < n ∧ ∃ b off, a = some ⟨b, off, none⟩ ∧ b < w.heap.size ∧ w.cell? ⟨b, off + k, none⟩ = some (.int .i64 s) := by
 obtain ⟨hl, rfl⟩ := List.getElem?_eq_some_iff.1 hk
 have hn : k < n := h.1 ▸ hl
 obtain ⟨b, off, ha, hr⟩ := h.2 (by omega)
 refine ⟨hn, b, off, ha, hr.1, ?_⟩
 have := hr.2 k hl 0 _ rfl
 rwa [Nat.mul_one, Nat.add_zero] at this
abbrev V3 := Nat × Int × ByteArray
def vOf (v : V3) : Value := .agg #[.int .u8 (v.1 : Int), .int .i64 v.2.1, .string v.2.2]
def badV : V3 := (4, 2, ⟨#[]⟩)
def txV (s : ByteArray) : V3 := if 256 < s.size then badV else (3, 0, s)
theorem zae {w : World} {p : Nat} {k : Nat} {n : Int} {s : ByteArray} (h : B3 w p k n s) (k' : Nat) (n' : Int) (s' : ByteArray) :
 B3 (((w.setCell ⟨p, 0, none⟩ (.int .u8 (k' : Int))).setCell ⟨p, 1, none⟩ (.int .i64 n')).setCell ⟨p, 2, none⟩ (.string s')) p k' n' s' ∧
 w.grownBy (((w.setCell ⟨p, 0, none⟩ (.int .u8 (k' : Int))).setCell ⟨p, 1, none⟩ (.int .i64 n')).setCell ⟨p, 2, none⟩ (.string s')) (some p) := by
 have := set3 w p 26 _ _ _ (.int .u8 (k' : Int)) (.int .i64 n') (.string s') h
 exact ⟨this.2, this.1⟩
theorem ygp {n : Int} (h0 : 0 ≤ n) (h1 : n ≤ 1000000) : mkK (n * 10000) = 1 ∧ mkN (n * 10000) = n * 10000 := by
 have h : ¬ n * 10000 = zau := by unfold zau; omega
 exact ⟨if_neg h, if_neg h⟩
set_option maxHeartbeats 1600000 in
theorem zbo (s : ByteArray) (w : World) : Calls Tryz.prog 202 #[.string s] w fun e w' => e = .returned (vOf (txV s)) ∧ Below w.heap.size w w' := by
 have HX : Hid (B3 (w.alloc (.cells #[.int .u8 0, .int .i64 0, .string ⟨#[]⟩] 26)) w.heap.size 0 0 ⟨#[]⟩) := B3.start w 0 0 ⟨#[]⟩
 have HW := Lib.hid (zaa w (.cells #[.int .u8 0, .int .i64 0, .string ⟨#[]⟩] 26))
 go_enter Tryz.func202, Tryz.ntmps202
 by_cases h : 256 < s.size
 · have HE : Hid (txV s = badV) := by unfold Hid txV; rw [if_pos h]
   have HF : Hid (flN 2 = 2) := rfl
   go_wp2_with fail
   generalize w.alloc (.cells #[.int .u8 0, .int .i64 0, .string ⟨#[]⟩] 26) = wa at *
   refine (zb3 2 _).mono ?_
   rw [HF.out]
   rintro e w1 ⟨rfl, hB⟩
   have hX : B3 w1 w.heap.size 0 0 ⟨#[]⟩ := HX.out.later hB
   have HBW := Lib.hid (zab HW.out hB)
   obtain ⟨x0, x1, x2, z0, z1, z2⟩ := hX.cells
   have hXl := hX.lt
   obtain ⟨hq, hg⟩ := zae hX 4 2 ⟨#[]⟩
   have hb5 := HBW.out.grown hg HBW.out.size (fun q hq => by injection hq with hq; omega)
   clear hB hg
   go_wp2_with fail
   generalize ((w1.setCell ⟨w.heap.size, 0, none⟩ (.int .u8 4)).setCell ⟨w.heap.size, 1, none⟩ (.int .i64 2)).setCell ⟨w.heap.size, 2, none⟩ (.string ⟨#[]⟩) = w5 at *
   obtain ⟨y0, y1, y2, _, _, _⟩ := hq.cells
   refine bodyPost_ret (v := .agg #[.int .u8 4, .int .i64 2, .string ⟨#[]⟩]) (by simp [results, Tryz.results202, go_sem, y0, y1, y2]) rfl ⟨by rw [HE.out]; rfl, hb5⟩
 · have HE : Hid (txV s = (3, 0, s)) := by unfold Hid txV; rw [if_neg h]
   go_wp2_with fail
   refine bodyPost_ret (v := .agg #[.int .u8 3, .int .i64 0, .string s]) (by simp [results, Tryz.results202, go_sem]) rfl ⟨by rw [HE.out]; rfl, zaa _ _⟩
def cnV (n : Int) : V3 := (1, n * 10000, ⟨#[]⟩)
set_option maxHeartbeats 1600000 in
theorem zli (n : Int) (h0 : 0 ≤ n) (h1 : n ≤ 1000000) (w : World) : Calls Tryz.prog 201 #[.int .i64 n] w fun e w' => e = .returned (vOf (cnV n)) ∧ Below w.heap.size w w' := by
 have HX : Hid (B3 (w.alloc (.cells #[.int .u8 0, .int .i64 0, .string ⟨#[]⟩] 26)) w.heap.size 0 0 ⟨#[]⟩) := B3.start w 0 0 ⟨#[]⟩
 have HW := Lib.hid (zaa w (.cells #[.int .u8 0, .int .i64 0, .string ⟨#[]⟩] 26))
 obtain ⟨hk, hn⟩ := ygp h0 h1
 have HK := Lib.hid hk
 have HN := Lib.hid hn
 clear hk hn
 go_enter Tryz.func201, Tryz.ntmps201
 go_wp2_with fail
 generalize w.alloc (.cells #[.int .u8 0, .int .i64 0, .string ⟨#[]⟩] 26) = wa at *
 refine (zyr (n * 10000) _).mono ?_
 rw [HK.out, HN.out]
 rintro e w1 ⟨rfl, hB⟩
 have hX : B3 w1 w.heap.size 0 0 ⟨#[]⟩ := HX.out.later hB
 have HBW := Lib.hid (zab HW.out hB)
 obtain ⟨x0, x1, x2, z0, z1, z2⟩ := hX.cells
 have hXl := hX.lt
 obtain ⟨hq, hg⟩ := zae hX 1 (n * 10000) ⟨#[]⟩
 have hb5 := HBW.out.grown hg HBW.out.size (fun q hq => by injection hq with hq; omega)
 clear hB hg
 go_wp2_with fail
 generalize ((w1.setCell ⟨w.heap.size, 0, none⟩ (.int .u8 1)).setCell ⟨w.heap.size, 1, none⟩ (.int .i64 (n * 10000))).setCell ⟨w.heap.size, 2, none⟩ (.string ⟨#[]⟩) = w5 at *
 obtain ⟨y0, y1, y2, _, _, _⟩ := hq.cells
 refine bodyPost_ret (v := .agg #[.int .u8 1, .int .i64 (n * 10000), .string ⟨#[]⟩]) (by simp [results, Tryz.results201, go_sem, y0, y1, y2]) rfl ⟨rfl, hb5⟩
end Go.Proofs.YtdhahiodnmmkeaaGreatDoor.Va
/- The methods of ftext's arguments. -/
namespace Go.Proofs.YtdhahiodnmmkeaaGreatDoor.Va
open Go Go.RowKit GM
set_option linter.unusedVariables false
set_option linter.unusedSimpArgs false
def Arg (w : World) (p : Nat) (u v : Value) : Prop := p < w.heap.size ∧ w.cell? ⟨p, 0, none⟩ = some u ∧ w.cell? ⟨p, 1, none⟩ = some v
theorem Arg.start (w : World) (u v : Value) (t : TypeId) : Arg (w.alloc (.cells #[u, v] t)) w.heap.size u v := ⟨by simp, (World.cell?_alloc_at _ _ _ 0 rfl).trans rfl, (World.cell?_alloc_at _ _ _ 1 rfl).trans rfl⟩
theorem zcc {n : Nat} {w w1 : World} (h : Below n w w1) (k : Nat) : Below n w (w1.drewN k) := ⟨h.os, h.tape, h.output, h.size, h.block⟩
theorem Arg.later {w w' : World} {p : Nat} {u v : Value} (h : Arg w p u v) (hB : Below w.heap.size w w') : Arg w' p u v :=
 ⟨Nat.lt_of_lt_of_le h.1 hB.size, (hB.cell (p := ⟨p, 0, none⟩) h.1).trans h.2.1, (hB.cell (p := ⟨p, 1, none⟩) h.1).trans h.2.2⟩
set_option maxHeartbeats 3200000 in
theorem yhw (ta wa : Option Addr) (tn tc wn wc : Nat) (T : List ByteArray) (W0 : List Int) (w : World) (hT : IsT w ta tn T) (hW : IsW w wa wn W0) (s : ByteArray) (h0 : T[0]? = some s) (hs : s.size ≤ 4096) :
 Calls Tryz.prog 150 #[.agg #[.slice ta tn tc, .slice wa wn wc]] w fun e w' => e = .returned (vOf (cnV (s.size : Int))) ∧ Below w.heap.size w w' := by
 have l1 := zaa w (.cells #[.slice ta tn tc, .slice wa wn wc] 82)
 have l2 := zaa (w.alloc (.cells #[.slice ta tn tc, .slice wa wn wc] 82)) (.cells #[.int .u8 0, .int .i64 0, .string ⟨#[]⟩] 26)
 have hX := B3.start (w.alloc (.cells #[.slice ta tn tc, .slice wa wn wc] 82)) 0 0 ⟨#[]⟩
 rw [World.size_alloc] at hX
 have HX : Hid (B3 ((w.alloc (.cells #[.slice ta tn tc, .slice wa wn wc] 82)).alloc (.cells #[.int .u8 0, .int .i64 0, .string ⟨#[]⟩] 26)) (w.heap.size + 1) 0 0 ⟨#[]⟩) := hX
 have HB := Lib.hid (zab l1 l2)
 obtain ⟨nt0, bt0, ot0, ea0, lt0, ct0⟩ := zbb hT h0
 rw [Nat.add_zero] at ct0
 clear hX l1 l2 hT hW
 go_enter Tryz.func150, Tryz.ntmps150
 subst ea0
 go_wp2_with fail
 have HV := Lib.hid (fun W => zli (s.size : Int) (by omega) (by omega) W)
 generalize hvv : cnV (s.size : Int) = vv at HV
 have HVV := Lib.hid hvv
 clear hvv
 obtain ⟨vk, vn, vs⟩ := vv
 unfold vOf at HV
 dsimp only at HV
 refine (HV.out _).mono ?_
 rintro e w1 ⟨rfl, hB⟩
 have hX : B3 w1 (w.heap.size + 1) 0 0 ⟨#[]⟩ := HX.out.later hB
 have HBW := Lib.hid (zab HB.out hB)
 obtain ⟨x0, x1, x2, z0, z1, z2⟩ := hX.cells
 have hXl := hX.lt
 obtain ⟨hq, hg⟩ := zae hX vk vn vs
 have hb5 := HBW.out.grown hg HBW.out.size (fun q hq => by injection hq with hq; omega)
 clear hB hg
 go_wp2_with fail
 generalize ((w1.setCell ⟨(w.heap.size + 1), 0, none⟩ (.int .u8 (vk : Int))).setCell ⟨(w.heap.size + 1), 1, none⟩ (.int .i64 vn)).setCell ⟨(w.heap.size + 1), 2, none⟩ (.string vs) = w5 at *
 obtain ⟨y0, y1, y2, _, _, _⟩ := hq.cells
 refine bodyPost_ret (v := .agg #[.int .u8 (vk : Int), .int .i64 vn, .string vs]) (by simp [results, Tryz.results150, go_sem, y0, y1, y2]) rfl ⟨by rw [HVV.out]; rfl, hb5⟩
def leftV (s : ByteArray) (n : Int) : V3 := if n < 0 then badV else txV (s.extract 0 (min n s.size).toNat)
set_option maxHeartbeats 3200000 in
theorem ygc (ta wa : Option Addr) (tn tc wn wc : Nat) (T : List ByteArray) (W0 : List Int) (w : World) (hT : IsT w ta tn T) (hW : IsW w wa wn W0) (s : ByteArray) (n : Int) (h0 : T[0]? = some s) (h1 : W0[0]? = some n) (hs : s.size ≤ 4096) :
 Calls Tryz.prog 151 #[.agg #[.slice ta tn tc, .slice wa wn wc]] w fun e w' => e = .returned (vOf (leftV s n)) ∧ Below w.heap.size w w' := by
 have l1 := zaa w (.cells #[.slice ta tn tc, .slice wa wn wc] 82)
 have l2 := zaa (w.alloc (.cells #[.slice ta tn tc, .slice wa wn wc] 82)) (.cells #[.int .u8 0, .int .i64 0, .string ⟨#[]⟩] 26)
 have hX := B3.start (w.alloc (.cells #[.slice ta tn tc, .slice wa wn wc] 82)) 0 0 ⟨#[]⟩
 rw [World.size_alloc] at hX
 have HX : Hid (B3 ((w.alloc (.cells #[.slice ta tn tc, .slice wa wn wc] 82)).alloc (.cells #[.int .u8 0, .int .i64 0, .string ⟨#[]⟩] 26)) (w.heap.size + 1) 0 0 ⟨#[]⟩) := hX
 have HB := Lib.hid (zab l1 l2)
 obtain ⟨hal, a0, a1⟩ := (Arg.start w (.slice ta tn tc) (.slice wa wn wc) 82).later l2
 obtain ⟨nt0, bt0, ot0, ea0, lt0, ct0⟩ := zbb (IsOf.later hT HB.out) h0
 obtain ⟨nw0, bw0, ow0, eb0, lw0, cw0⟩ := zd8 (IsOf.later hW HB.out) h1
 rw [Nat.add_zero] at ct0
 rw [Nat.add_zero] at cw0
 have EA0 := Lib.hid ea0
 clear ea0
 have EB0 := Lib.hid eb0
 clear eb0
 clear hX l1 l2 hT hW
 go_enter Tryz.func151, Tryz.ntmps151
 go_wp2_with fail
 generalize (w.alloc (.cells #[.slice ta tn tc, .slice wa wn wc] 82)).alloc (.cells #[.int .u8 0, .int .i64 0, .string ⟨#[]⟩] 26) = wa0 at *
 have ea0 := EA0.out
 have eb0 := EB0.out
 clear EA0 EB0
 subst ea0
 subst eb0
 go_quiet (fail)
 have HX1 : Hid (B3 (wa0.drewN nq) (w.heap.size + 1) 0 0 ⟨#[]⟩) := HX
 have HB1 := Lib.hid (zcc HB.out nq)
 clear HX HB ct0 lt0 nt0 cw0 lw0 nw0 hal a0 a1
 generalize wa0.drewN nq = wa1 at *
 have HX := HX1
 have HB := HB1
 clear HX1 HB1
 by_cases h : n < 0
 · have HE : Hid (leftV s n = badV) := if_pos h
   go_wp2_with fail
   refine (zb3 2 _).mono ?_
   rw [show flN 2 = 2 from rfl]
   rintro e w1 ⟨rfl, hB⟩
   have hX : B3 w1 (w.heap.size + 1) 0 0 ⟨#[]⟩ := HX.out.later hB
   have HBW := Lib.hid (zab HB.out hB)
   obtain ⟨x0, x1, x2, z0, z1, z2⟩ := hX.cells
   have hXl := hX.lt
   obtain ⟨hq, hg⟩ := zae hX 4 2 ⟨#[]⟩
   have hb5 := HBW.out.grown hg HBW.out.size (fun q hq => by injection hq with hq; omega)
   clear hB hg
   go_wp2_with fail
   generalize ((w1.setCell ⟨(w.heap.size + 1), 0, none⟩ (.int .u8 4)).setCell ⟨(w.heap.size + 1), 1, none⟩ (.int .i64 2)).setCell ⟨(w.heap.size + 1), 2, none⟩ (.string ⟨#[]⟩) = w5 at *
   obtain ⟨y0, y1, y2, _, _, _⟩ := hq.cells
   refine bodyPost_ret (v := .agg #[.int .u8 4, .int .i64 2, .string ⟨#[]⟩]) (by simp [results, Tryz.results151, go_sem, y0, y1, y2]) rfl ⟨by rw [HE.out]; rfl, hb5⟩
 · have HE : Hid (leftV s n = txV (s.extract 0 (min n s.size).toNat)) := if_neg h
   have hm0 : 0 ≤ min n (s.size : Int) := by omega
   have hm1 : min n (s.size : Int) ≤ (s.size : Int) := by omega
   go_wp2_with fail
   have HV := Lib.hid (fun W => zbo (s.extract 0 (min n s.size).toNat) W)
   generalize hvv : txV (s.extract 0 (min n s.size).toNat) = vv at HV
   have HVV := Lib.hid hvv
   clear hvv
   obtain ⟨vk, vn, vs⟩ := vv
   unfold vOf at HV
   dsimp only at HV
   refine (HV.out _).mono ?_
   rintro e w1 ⟨rfl, hB⟩
   have hX : B3 w1 (w.heap.size + 1) 0 0 ⟨#[]⟩ := HX.out.later hB
   have HBW := Lib.hid (zab HB.out hB)
   obtain ⟨x0, x1, x2, z0, z1, z2⟩ := hX.cells
   have hXl := hX.lt
   obtain ⟨hq, hg⟩ := zae hX vk vn vs
   have hb5 := HBW.out.grown hg HBW.out.size (fun q hq => by injection hq with hq; omega)
   clear hB hg
   go_wp2_with fail
   generalize ((w1.setCell ⟨(w.heap.size + 1), 0, none⟩ (.int .u8 (vk : Int))).setCell ⟨(w.heap.size + 1), 1, none⟩ (.int .i64 vn)).setCell ⟨(w.heap.size + 1), 2, none⟩ (.string vs) = w5 at *
   obtain ⟨y0, y1, y2, _, _, _⟩ := hq.cells
   refine bodyPost_ret (v := .agg #[.int .u8 (vk : Int), .int .i64 vn, .string vs]) (by simp [results, Tryz.results151, go_sem, y0, y1, y2]) rfl ⟨by rw [HE.out, HVV.out]; rfl, hb5⟩
def ziy (s : ByteArray) (n : Int) : V3 := if n < 0 then badV else txV (s.extract ((s.size : Int) - min n s.size).toNat s.size)
set_option maxHeartbeats 3200000 in
theorem yd0 (ta wa : Option Addr) (tn tc wn wc : Nat) (T : List ByteArray) (W0 : List Int) (w : World) (hT : IsT w ta tn T) (hW : IsW w wa wn W0) (s : ByteArray) (n : Int) (h0 : T[0]? = some s) (h1 : W0[0]? = some n) (hs : s.size ≤ 4096) :
 Calls Tryz.prog 152 #[.agg #[.slice ta tn tc, .slice wa wn wc]] w fun e w' => e = .returned (vOf (ziy s n)) ∧ Below w.heap.size w w' := by
 have l1 := zaa w (.cells #[.slice ta tn tc, .slice wa wn wc] 82)
 have l2 := zaa (w.alloc (.cells #[.slice ta tn tc, .slice wa wn wc] 82)) (.cells #[.int .u8 0, .int .i64 0, .string ⟨#[]⟩] 26)
 have hX := B3.start (w.alloc (.cells #[.slice ta tn tc, .slice wa wn wc] 82)) 0 0 ⟨#[]⟩
 rw [World.size_alloc] at hX
 have HX : Hid (B3 ((w.alloc (.cells #[.slice ta tn tc, .slice wa wn wc] 82)).alloc (.cells #[.int .u8 0, .int .i64 0, .string ⟨#[]⟩] 26)) (w.heap.size + 1) 0 0 ⟨#[]⟩) := hX
 have HB := Lib.hid (zab l1 l2)
 obtain ⟨hal, a0, a1⟩ := (Arg.start w (.slice ta tn tc) (.slice wa wn wc) 82).later l2
 obtain ⟨nt0, bt0, ot0, ea0, lt0, ct0⟩ := zbb (IsOf.later hT HB.out) h0
 obtain ⟨nw0, bw0, ow0, eb0, lw0, cw0⟩ := zd8 (IsOf.later hW HB.out) h1
 rw [Nat.add_zero] at ct0
 rw [Nat.add_zero] at cw0
 have EA0 := Lib.hid ea0
 clear ea0
 have EB0 := Lib.hid eb0
 clear eb0
 clear hX l1 l2 hT hW
 go_enter Tryz.func152, Tryz.ntmps152
 go_wp2_with fail
 generalize (w.alloc (.cells #[.slice ta tn tc, .slice wa wn wc] 82)).alloc (.cells #[.int .u8 0, .int .i64 0, .string ⟨#[]⟩] 26) = wa0 at *
 have ea0 := EA0.out
 have eb0 := EB0.out
 clear EA0 EB0
 subst ea0
 subst eb0
 go_quiet (fail)
 have HX1 : Hid (B3 (wa0.drewN nq) (w.heap.size + 1) 0 0 ⟨#[]⟩) := HX
 have HB1 := Lib.hid (zcc HB.out nq)
 clear HX HB ct0 lt0 nt0 cw0 lw0 nw0 hal a0 a1
 generalize wa0.drewN nq = wa1 at *
 have HX := HX1
 have HB := HB1
 clear HX1 HB1
 by_cases h : n < 0
 · have HE : Hid (ziy s n = badV) := if_pos h
   go_wp2_with fail
   refine (zb3 2 _).mono ?_
   rw [show flN 2 = 2 from rfl]
   rintro e w1 ⟨rfl, hB⟩
   have hX : B3 w1 (w.heap.size + 1) 0 0 ⟨#[]⟩ := HX.out.later hB
   have HBW := Lib.hid (zab HB.out hB)
   obtain ⟨x0, x1, x2, z0, z1, z2⟩ := hX.cells
   have hXl := hX.lt
   obtain ⟨hq, hg⟩ := zae hX 4 2 ⟨#[]⟩
   have hb5 := HBW.out.grown hg HBW.out.size (fun q hq => by injection hq with hq; omega)
   clear hB hg
   go_wp2_with fail
   generalize ((w1.setCell ⟨(w.heap.size + 1), 0, none⟩ (.int .u8 4)).setCell ⟨(w.heap.size + 1), 1, none⟩ (.int .i64 2)).setCell ⟨(w.heap.size + 1), 2, none⟩ (.string ⟨#[]⟩) = w5 at *
   obtain ⟨y0, y1, y2, _, _, _⟩ := hq.cells
   refine bodyPost_ret (v := .agg #[.int .u8 4, .int .i64 2, .string ⟨#[]⟩]) (by simp [results, Tryz.results152, go_sem, y0, y1, y2]) rfl ⟨by rw [HE.out]; rfl, hb5⟩
 · have HE : Hid (ziy s n = txV (s.extract ((s.size : Int) - min n s.size).toNat s.size)) := if_neg h
   have hm0 : 0 ≤ min n (s.size : Int) := by omega
   have hm1 : min n (s.size : Int) ≤ (s.size : Int) := by omega
   have hm2 : IntKind.i64.wrap ((s.size : Int) - min n (s.size : Int)) = (s.size : Int) - min n (s.size : Int) := IntWalk.i64_in _ (by omega)
   have hm3 : 0 ≤ (s.size : Int) - min n (s.size : Int) := by omega
   have hm4 : (s.size : Int) - min n (s.size : Int) ≤ (s.size : Int) := by omega
   go_wp2_with fail
   have HV := Lib.hid (fun W => zbo (s.extract ((s.size : Int) - min n s.size).toNat s.size) W)
   generalize hvv : txV (s.extract ((s.size : Int) - min n s.size).toNat s.size) = vv at HV
   have HVV := Lib.hid hvv
   clear hvv
   obtain ⟨vk, vn, vs⟩ := vv
   unfold vOf at HV
   dsimp only at HV
   refine (HV.out _).mono ?_
   rintro e w1 ⟨rfl, hB⟩
   have hX : B3 w1 (w.heap.size + 1) 0 0 ⟨#[]⟩ := HX.out.later hB
   have HBW := Lib.hid (zab HB.out hB)
   obtain ⟨x0, x1, x2, z0, z1, z2⟩ := hX.cells
   have hXl := hX.lt
   obtain ⟨hq, hg⟩ := zae hX vk vn vs
   have hb5 := HBW.out.grown hg HBW.out.size (fun q hq => by injection hq with hq; omega)
   clear hB hg
   go_wp2_with fail
   generalize ((w1.setCell ⟨(w.heap.size + 1), 0, none⟩ (.int .u8 (vk : Int))).setCell ⟨(w.heap.size + 1), 1, none⟩ (.int .i64 vn)).setCell ⟨(w.heap.size + 1), 2, none⟩ (.string vs) = w5 at *
   obtain ⟨y0, y1, y2, _, _, _⟩ := hq.cells
   refine bodyPost_ret (v := .agg #[.int .u8 (vk : Int), .int .i64 vn, .string vs]) (by simp [results, Tryz.results152, go_sem, y0, y1, y2]) rfl ⟨by rw [HE.out, HVV.out]; rfl, hb5⟩
def midS (s : ByteArray) (f n : Int) : ByteArray := (s.extract (min (f - 1) s.size).toNat s.size).extract 0 (min n ((s.size - (min (f - 1) s.size).toNat : Nat) : Int)).toNat
def midV (s : ByteArray) (f n : Int) : V3 := if f < 1 ∨ n < 0 then badV else txV (midS s f n)
set_option maxHeartbeats 3200000 in
theorem yhv (ta wa : Option Addr) (tn tc wn wc : Nat) (T : List ByteArray) (W0 : List Int) (w : World) (hT : IsT w ta tn T) (hW : IsW w wa wn W0) (s : ByteArray) (f n : Int) (h0 : T[0]? = some s) (h1 : W0[0]? = some f) (h2 : W0[1]? = some n) (hf : f ≤ 9223372036854775807) (hs : s.size ≤ 4096) :
 Calls Tryz.prog 153 #[.agg #[.slice ta tn tc, .slice wa wn wc]] w fun e w' => e = .returned (vOf (midV s f n)) ∧ Below w.heap.size w w' := by
 have l1 := zaa w (.cells #[.slice ta tn tc, .slice wa wn wc] 82)
 have l2 := zaa (w.alloc (.cells #[.slice ta tn tc, .slice wa wn wc] 82)) (.cells #[.int .u8 0, .int .i64 0, .string ⟨#[]⟩] 26)
 have hX := B3.start (w.alloc (.cells #[.slice ta tn tc, .slice wa wn wc] 82)) 0 0 ⟨#[]⟩
 rw [World.size_alloc] at hX
 have HX : Hid (B3 ((w.alloc (.cells #[.slice ta tn tc, .slice wa wn wc] 82)).alloc (.cells #[.int .u8 0, .int .i64 0, .string ⟨#[]⟩] 26)) (w.heap.size + 1) 0 0 ⟨#[]⟩) := hX
 have HB := Lib.hid (zab l1 l2)
 obtain ⟨hal, a0, a1⟩ := (Arg.start w (.slice ta tn tc) (.slice wa wn wc) 82).later l2
 obtain ⟨nt0, bt0, ot0, ea0, lt0, ct0⟩ := zbb (IsOf.later hT HB.out) h0
 obtain ⟨nw0, bw0, ow0, eb0, lw0, cw0⟩ := zd8 (IsOf.later hW HB.out) h1
 obtain ⟨nw1, bw1, ow1, eb1, lw1, cw1⟩ := zd8 (IsOf.later hW HB.out) h2
 rw [Nat.add_zero] at ct0
 rw [Nat.add_zero] at cw0
 have EA0 := Lib.hid ea0
 clear ea0
 have EB0 := Lib.hid eb0
 clear eb0
 have EB1 := Lib.hid eb1
 clear eb1
 clear hX l1 l2 hT hW
 go_enter Tryz.func153, Tryz.ntmps153
 go_wp2_with fail
 generalize (w.alloc (.cells #[.slice ta tn tc, .slice wa wn wc] 82)).alloc (.cells #[.int .u8 0, .int .i64 0, .string ⟨#[]⟩] 26) = wa0 at *
 have ea0 := EA0.out
 have eb0 := EB0.out
 have eb1 := EB1.out
 clear EA0 EB0 EB1
 subst ea0
 subst eb0
 cases eb1
 go_quiet (fail)
 have HX1 : Hid (B3 (wa0.drewN nq) (w.heap.size + 1) 0 0 ⟨#[]⟩) := HX
 have HB1 := Lib.hid (zcc HB.out nq)
 clear HX HB ct0 lt0 nt0 cw0 lw0 nw0 cw1 lw1 nw1 hal a0 a1
 generalize wa0.drewN nq = wa1 at *
 have HX := HX1
 have HB := HB1
 clear HX1 HB1
 by_cases h : f < 1
 · have HE : Hid (midV s f n = badV) := if_pos (.inl h)
   go_wp2_with fail
   refine (zb3 2 _).mono ?_
   rw [show flN 2 = 2 from rfl]
   rintro e w1 ⟨rfl, hB⟩
   have hX : B3 w1 (w.heap.size + 1) 0 0 ⟨#[]⟩ := HX.out.later hB
   have HBW := Lib.hid (zab HB.out hB)
   obtain ⟨x0, x1, x2, z0, z1, z2⟩ := hX.cells
   have hXl := hX.lt
   obtain ⟨hq, hg⟩ := zae hX 4 2 ⟨#[]⟩
   have hb5 := HBW.out.grown hg HBW.out.size (fun q hq => by injection hq with hq; omega)
   clear hB hg
   go_wp2_with fail
   generalize ((w1.setCell ⟨(w.heap.size + 1), 0, none⟩ (.int .u8 4)).setCell ⟨(w.heap.size + 1), 1, none⟩ (.int .i64 2)).setCell ⟨(w.heap.size + 1), 2, none⟩ (.string ⟨#[]⟩) = w5 at *
   obtain ⟨y0, y1, y2, _, _, _⟩ := hq.cells
   refine bodyPost_ret (v := .agg #[.int .u8 4, .int .i64 2, .string ⟨#[]⟩]) (by simp [results, Tryz.results153, go_sem, y0, y1, y2]) rfl ⟨by rw [HE.out]; rfl, hb5⟩
 by_cases h' : n < 0
 · have HE : Hid (midV s f n = badV) := if_pos (.inr h')
   go_wp2_with fail
   refine (zb3 2 _).mono ?_
   rw [show flN 2 = 2 from rfl]
   rintro e w1 ⟨rfl, hB⟩
   have hX : B3 w1 (w.heap.size + 1) 0 0 ⟨#[]⟩ := HX.out.later hB
   have HBW := Lib.hid (zab HB.out hB)
   obtain ⟨x0, x1, x2, z0, z1, z2⟩ := hX.cells
   have hXl := hX.lt
   obtain ⟨hq, hg⟩ := zae hX 4 2 ⟨#[]⟩
   have hb5 := HBW.out.grown hg HBW.out.size (fun q hq => by injection hq with hq; omega)
   clear hB hg
   go_wp2_with fail
   generalize ((w1.setCell ⟨(w.heap.size + 1), 0, none⟩ (.int .u8 4)).setCell ⟨(w.heap.size + 1), 1, none⟩ (.int .i64 2)).setCell ⟨(w.heap.size + 1), 2, none⟩ (.string ⟨#[]⟩) = w5 at *
   obtain ⟨y0, y1, y2, _, _, _⟩ := hq.cells
   refine bodyPost_ret (v := .agg #[.int .u8 4, .int .i64 2, .string ⟨#[]⟩]) (by simp [results, Tryz.results153, go_sem, y0, y1, y2]) rfl ⟨by rw [HE.out]; rfl, hb5⟩
 have HE : Hid (midV s f n = txV (midS s f n)) := if_neg (by omega)
 have HM : Hid (midS s f n = (s.extract (min (f - 1) s.size).toNat s.size).extract 0 (min n ((s.size - (min (f - 1) s.size).toNat : Nat) : Int)).toNat) := rfl
 have hm0 : 0 ≤ min (f - 1) (s.size : Int) := by omega
 have hm1 : min (f - 1) (s.size : Int) ≤ (s.size : Int) := by omega
 have hm2 : IntKind.i64.wrap (f - 1) = f - 1 := IntWalk.i64_in _ (by omega)
 have hr0 : 0 ≤ min n ((s.size - (min (f - 1) s.size).toNat : Nat) : Int) := by omega
 have hr1 : min n ((s.size - (min (f - 1) s.size).toNat : Nat) : Int) ≤ ((s.size - (min (f - 1) s.size).toNat : Nat) : Int) := by omega
 go_wp2_with fail
 rw [← HM.out]
 have HV := Lib.hid (fun W => zbo (midS s f n) W)
 generalize hvv : txV (midS s f n) = vv at HV
 have HVV := Lib.hid hvv
 clear hvv
 obtain ⟨vk, vn, vs⟩ := vv
 unfold vOf at HV
 dsimp only at HV
 refine (HV.out _).mono ?_
 rintro e w1 ⟨rfl, hB⟩
 have hX : B3 w1 (w.heap.size + 1) 0 0 ⟨#[]⟩ := HX.out.later hB
 have HBW := Lib.hid (zab HB.out hB)
 obtain ⟨x0, x1, x2, z0, z1, z2⟩ := hX.cells
 have hXl := hX.lt
 obtain ⟨hq, hg⟩ := zae hX vk vn vs
 have hb5 := HBW.out.grown hg HBW.out.size (fun q hq => by injection hq with hq; omega)
 clear hB hg
 go_wp2_with fail
 generalize ((w1.setCell ⟨(w.heap.size + 1), 0, none⟩ (.int .u8 (vk : Int))).setCell ⟨(w.heap.size + 1), 1, none⟩ (.int .i64 vn)).setCell ⟨(w.heap.size + 1), 2, none⟩ (.string vs) = w5 at *
 obtain ⟨y0, y1, y2, _, _, _⟩ := hq.cells
 refine bodyPost_ret (v := .agg #[.int .u8 (vk : Int), .int .i64 vn, .string vs]) (by simp [results, Tryz.results153, go_sem, y0, y1, y2]) rfl ⟨by rw [HE.out, HVV.out]; rfl, hb5⟩
set_option maxHeartbeats 3200000 in
theorem ydz (ta wa : Option Addr) (tn tc wn wc : Nat) (T : List ByteArray) (W0 : List Int) (w : World) (hT : IsT w ta tn T) (hW : IsW w wa wn W0) (s : ByteArray) (h0 : T[0]? = some s) (hs : s.size ≤ 4096) :
 Calls Tryz.prog 154 #[.agg #[.slice ta tn tc, .slice wa wn wc]] w fun e w' => e = .returned (vOf (txV (upS s))) ∧ Below w.heap.size w w' := by
 have l1 := zaa w (.cells #[.slice ta tn tc, .slice wa wn wc] 82)
 have l2 := zaa (w.alloc (.cells #[.slice ta tn tc, .slice wa wn wc] 82)) (.cells #[.int .u8 0, .int .i64 0, .string ⟨#[]⟩] 26)
 have hX := B3.start (w.alloc (.cells #[.slice ta tn tc, .slice wa wn wc] 82)) 0 0 ⟨#[]⟩
 rw [World.size_alloc] at hX
 have HX : Hid (B3 ((w.alloc (.cells #[.slice ta tn tc, .slice wa wn wc] 82)).alloc (.cells #[.int .u8 0, .int .i64 0, .string ⟨#[]⟩] 26)) (w.heap.size + 1) 0 0 ⟨#[]⟩) := hX
 have HB := Lib.hid (zab l1 l2)
 obtain ⟨nt0, bt0, ot0, ea0, lt0, ct0⟩ := zbb hT h0
 rw [Nat.add_zero] at ct0
 clear hX l1 l2 hT hW
 go_enter Tryz.func154, Tryz.ntmps154
 subst ea0
 go_wp2_with fail
 refine (zt0 s (by unfold maxLen; omega) _).mono ?_
 rintro e w2 ⟨rfl, hB2⟩
 have HX2 := Lib.hid (HX.out.later hB2)
 have HB2 := Lib.hid (zab HB.out hB2)
 clear hB2 HX HB
 have HX := HX2
 have HB := HB2
 clear HX2 HB2
 go_wp2_with fail
 have HV := Lib.hid (fun W => zbo (upS s) W)
 generalize hvv : txV (upS s) = vv at HV
 have HVV := Lib.hid hvv
 clear hvv
 obtain ⟨vk, vn, vs⟩ := vv
 unfold vOf at HV
 dsimp only at HV
 refine (HV.out _).mono ?_
 rintro e w1 ⟨rfl, hB⟩
 have hX : B3 w1 (w.heap.size + 1) 0 0 ⟨#[]⟩ := HX.out.later hB
 have HBW := Lib.hid (zab HB.out hB)
 obtain ⟨x0, x1, x2, z0, z1, z2⟩ := hX.cells
 have hXl := hX.lt
 obtain ⟨hq, hg⟩ := zae hX vk vn vs
 have hb5 := HBW.out.grown hg HBW.out.size (fun q hq => by injection hq with hq; omega)
 clear hB hg
 go_wp2_with fail
 generalize ((w1.setCell ⟨(w.heap.size + 1), 0, none⟩ (.int .u8 (vk : Int))).setCell ⟨(w.heap.size + 1), 1, none⟩ (.int .i64 vn)).setCell ⟨(w.heap.size + 1), 2, none⟩ (.string vs) = w5 at *
 obtain ⟨y0, y1, y2, _, _, _⟩ := hq.cells
 refine bodyPost_ret (v := .agg #[.int .u8 (vk : Int), .int .i64 vn, .string vs]) (by simp [results, Tryz.results154, go_sem, y0, y1, y2]) rfl ⟨by rw [HVV.out]; rfl, hb5⟩
set_option maxHeartbeats 3200000 in
theorem yd1 (ta wa : Option Addr) (tn tc wn wc : Nat) (T : List ByteArray) (W0 : List Int) (w : World) (hT : IsT w ta tn T) (hW : IsW w wa wn W0) (s : ByteArray) (h0 : T[0]? = some s) (hs : s.size ≤ 4096) :
 Calls Tryz.prog 155 #[.agg #[.slice ta tn tc, .slice wa wn wc]] w fun e w' => e = .returned (vOf (txV (loS s))) ∧ Below w.heap.size w w' := by
 have l1 := zaa w (.cells #[.slice ta tn tc, .slice wa wn wc] 82)
 have l2 := zaa (w.alloc (.cells #[.slice ta tn tc, .slice wa wn wc] 82)) (.cells #[.int .u8 0, .int .i64 0, .string ⟨#[]⟩] 26)
 have hX := B3.start (w.alloc (.cells #[.slice ta tn tc, .slice wa wn wc] 82)) 0 0 ⟨#[]⟩
 rw [World.size_alloc] at hX
 have HX : Hid (B3 ((w.alloc (.cells #[.slice ta tn tc, .slice wa wn wc] 82)).alloc (.cells #[.int .u8 0, .int .i64 0, .string ⟨#[]⟩] 26)) (w.heap.size + 1) 0 0 ⟨#[]⟩) := hX
 have HB := Lib.hid (zab l1 l2)
 obtain ⟨nt0, bt0, ot0, ea0, lt0, ct0⟩ := zbb hT h0
 rw [Nat.add_zero] at ct0
 clear hX l1 l2 hT hW
 go_enter Tryz.func155, Tryz.ntmps155
 subst ea0
 go_wp2_with fail
 refine (zvt s (by unfold maxLen; omega) _).mono ?_
 rintro e w2 ⟨rfl, hB2⟩
 have HX2 := Lib.hid (HX.out.later hB2)
 have HB2 := Lib.hid (zab HB.out hB2)
 clear hB2 HX HB
 have HX := HX2
 have HB := HB2
 clear HX2 HB2
 go_wp2_with fail
 have HV := Lib.hid (fun W => zbo (loS s) W)
 generalize hvv : txV (loS s) = vv at HV
 have HVV := Lib.hid hvv
 clear hvv
 obtain ⟨vk, vn, vs⟩ := vv
 unfold vOf at HV
 dsimp only at HV
 refine (HV.out _).mono ?_
 rintro e w1 ⟨rfl, hB⟩
 have hX : B3 w1 (w.heap.size + 1) 0 0 ⟨#[]⟩ := HX.out.later hB
 have HBW := Lib.hid (zab HB.out hB)
 obtain ⟨x0, x1, x2, z0, z1, z2⟩ := hX.cells
 have hXl := hX.lt
 obtain ⟨hq, hg⟩ := zae hX vk vn vs
 have hb5 := HBW.out.grown hg HBW.out.size (fun q hq => by injection hq with hq; omega)
 clear hB hg
 go_wp2_with fail
 generalize ((w1.setCell ⟨(w.heap.size + 1), 0, none⟩ (.int .u8 (vk : Int))).setCell ⟨(w.heap.size + 1), 1, none⟩ (.int .i64 vn)).setCell ⟨(w.heap.size + 1), 2, none⟩ (.string vs) = w5 at *
 obtain ⟨y0, y1, y2, _, _, _⟩ := hq.cells
 refine bodyPost_ret (v := .agg #[.int .u8 (vk : Int), .int .i64 vn, .string vs]) (by simp [results, Tryz.results155, go_sem, y0, y1, y2]) rfl ⟨by rw [HVV.out]; rfl, hb5⟩
def zjx (s t : ByteArray) : V3 := (2, b2i (decide (s = t)), ⟨#[]⟩)
theorem yc2 (s t : ByteArray) : (s.toList == t.toList) = decide (s = t) := by
 rw [ByteArray.toList_eq, ByteArray.toList_eq]
 by_cases h : s = t
 · subst h; simp
 · rw [decide_eq_false h, beq_eq_false_iff_ne]; intro e; exact h (ByteArray.ext (Array.toList_inj.1 e))
attribute [local simp] DepA isB rsAt
set_option maxRecDepth 100000 in
set_option maxHeartbeats 3200000 in
theorem yd2 (ta wa : Option Addr) (tn tc wn wc : Nat) (T : List ByteArray) (W0 : List Int) (w : World) (hT : IsT w ta tn T) (hW : IsW w wa wn W0) (s t : ByteArray) (h0 : T[0]? = some s) (h1 : T[1]? = some t) :
 Calls Tryz.prog 159 #[.agg #[.slice ta tn tc, .slice wa wn wc]] w fun e w' => e = .returned (vOf (zjx s t)) ∧ Below w.heap.size w w' := by
 have l1 := zaa w (.cells #[.slice ta tn tc, .slice wa wn wc] 82)
 have l2 := zaa (w.alloc (.cells #[.slice ta tn tc, .slice wa wn wc] 82)) (.cells #[.int .u8 0, .int .i64 0, .string ⟨#[]⟩] 26)
 have hX := B3.start (w.alloc (.cells #[.slice ta tn tc, .slice wa wn wc] 82)) 0 0 ⟨#[]⟩
 rw [World.size_alloc] at hX
 have HX : Hid (B3 ((w.alloc (.cells #[.slice ta tn tc, .slice wa wn wc] 82)).alloc (.cells #[.int .u8 0, .int .i64 0, .string ⟨#[]⟩] 26)) (w.heap.size + 1) 0 0 ⟨#[]⟩) := hX
 have HB := Lib.hid (zab l1 l2)
 obtain ⟨hal, a0, a1⟩ := (Arg.start w (.slice ta tn tc) (.slice wa wn wc) 82).later l2
 obtain ⟨nt0, bt0, ot0, ea0, lt0, ct0⟩ := zbb (IsOf.later hT HB.out) h0
 obtain ⟨nt1, bt1, ot1, ea1, lt1, ct1⟩ := zbb (IsOf.later hT HB.out) h1
 rw [Nat.add_zero] at ct0
 have EA0 := Lib.hid ea0
 clear ea0
 have EA1 := Lib.hid ea1
 clear ea1
 clear hX l1 l2 hT hW
 go_enter Tryz.func159, Tryz.ntmps159
 go_wp2_with fail
 generalize (w.alloc (.cells #[.slice ta tn tc, .slice wa wn wc] 82)).alloc (.cells #[.int .u8 0, .int .i64 0, .string ⟨#[]⟩] 26) = wa0 at *
 have ea0 := EA0.out
 have ea1 := EA1.out
 clear EA0 EA1
 subst ea0
 cases ea1
 obtain ⟨bb, hbb⟩ : ∃ bb, decide (s = t) = bb := ⟨_, rfl⟩
 have HV : Hid (zjx s t = (2, b2i bb, ⟨#[]⟩)) := by unfold Hid zjx; rw [hbb]
 have hbb2 : (s.toList == t.toList) = bb := by rw [← hbb]; exact yc2 s t
 have i1 : (1 : Int) < (tn : Int) := by omega
 have HT := Lib.hid (fun W => zt3 bb W)
 generalize b2i bb = bn at *
 refine zlv 10 (fun X => Below wa0.heap.size wa0 X) ((fun (q0 act : Act) (T : Nat → Bool) (X : World) => act = q0 ∧ B3 X (w.heap.size + 1) (if T 10 then 2 else 0) (if T 10 then bn else 0) ⟨#[]⟩ ∧ Below w.heap.size w X) ?act) (fun W W2 hB h1 => Below.next h1 hB) (by kernel_rfl) (by kernel_rfl) (by kernel_rfl) (by kernel_rfl) (by decide) (Below.refl _ wa0).drew ?pre ?sto ?fin
 case pre =>
  simp only [List.take, zhz, Act.put, List.setIfInBounds_toArray, List.set_cons_zero, List.set_cons_succ, Nat.zero_add, Nat.reduceAdd]
  refine zce ?_ (fun vs W hD => (by first | rfl | (simp at hD; simp [Region.wanted, yielded, hD]))) (fun vs W hS hD => ?_) ?_
  rotate_left
  · have z0 := (hS.cell (p := ⟨w.heap.size, 0, none⟩) hal).trans a0; have y0 := (hS.cell (p := ⟨bt0, ot0, none⟩) lt0).trans ct0; have y1 := (hS.cell (p := ⟨bt0, ot0 + 1, none⟩) lt0).trans ct1; have zl := Nat.lt_of_lt_of_le hal hS.size; have yl := Nat.lt_of_lt_of_le lt0 hS.size; obtain _ := hS; (try simp at hD); (try simp only [hD]); (first | (go_simp; done) | (go_simp; rfl))
  simp only [List.nil_append, List.cons_append]
  refine zce ?_ (fun vs W hD => (by first | rfl | (simp at hD; simp [Region.wanted, yielded, hD]))) (fun vs W hS hD => ?_) ?_
  rotate_left
  · have z0 := (hS.cell (p := ⟨w.heap.size, 0, none⟩) hal).trans a0; have y0 := (hS.cell (p := ⟨bt0, ot0, none⟩) lt0).trans ct0; have y1 := (hS.cell (p := ⟨bt0, ot0 + 1, none⟩) lt0).trans ct1; have zl := Nat.lt_of_lt_of_le hal hS.size; have yl := Nat.lt_of_lt_of_le lt0 hS.size; obtain _ := hS; (try simp at hD); (try simp only [hD]); (first | (go_simp; done) | (go_simp; rfl))
  simp only [List.nil_append, List.cons_append]
  refine zce ?_ (fun vs W hD => (by first | rfl | (simp at hD; simp [Region.wanted, yielded, hD]))) (fun vs W hS hD => ?_) ?_
  rotate_left
  · have z0 := (hS.cell (p := ⟨w.heap.size, 0, none⟩) hal).trans a0; have y0 := (hS.cell (p := ⟨bt0, ot0, none⟩) lt0).trans ct0; have y1 := (hS.cell (p := ⟨bt0, ot0 + 1, none⟩) lt0).trans ct1; have zl := Nat.lt_of_lt_of_le hal hS.size; have yl := Nat.lt_of_lt_of_le lt0 hS.size; obtain _ := hS; (try simp at hD); (try simp only [hD]); (first | (go_simp; done) | (go_simp; rfl))
  simp only [List.nil_append, List.cons_append]
  refine zce ?_ (fun vs W hD => (by first | rfl | (simp at hD; simp [Region.wanted, yielded, hD]))) (fun vs W hS hD => ?_) ?_
  rotate_left
  · have z0 := (hS.cell (p := ⟨w.heap.size, 0, none⟩) hal).trans a0; have y0 := (hS.cell (p := ⟨bt0, ot0, none⟩) lt0).trans ct0; have y1 := (hS.cell (p := ⟨bt0, ot0 + 1, none⟩) lt0).trans ct1; have zl := Nat.lt_of_lt_of_le hal hS.size; have yl := Nat.lt_of_lt_of_le lt0 hS.size; obtain _ := hS; (try simp at hD); (try simp only [hD]); (first | (go_simp; done) | (go_simp; rfl))
  simp only [List.nil_append, List.cons_append]
  refine zce ?_ (fun vs W hD => (by first | rfl | (simp at hD; simp [Region.wanted, yielded, hD]))) (fun vs W hS hD => ?_) ?_
  rotate_left
  · have z0 := (hS.cell (p := ⟨w.heap.size, 0, none⟩) hal).trans a0; have y0 := (hS.cell (p := ⟨bt0, ot0, none⟩) lt0).trans ct0; have y1 := (hS.cell (p := ⟨bt0, ot0 + 1, none⟩) lt0).trans ct1; have zl := Nat.lt_of_lt_of_le hal hS.size; have yl := Nat.lt_of_lt_of_le lt0 hS.size; obtain _ := hS; (try simp at hD); (try simp only [hD]); (first | (go_simp; done) | (go_simp; rfl))
  simp only [List.nil_append, List.cons_append]
  refine zce ?_ (fun vs W hD => (by first | rfl | (simp at hD; simp [Region.wanted, yielded, hD]))) (fun vs W hS hD => ?_) ?_
  rotate_left
  · have z0 := (hS.cell (p := ⟨w.heap.size, 0, none⟩) hal).trans a0; have y0 := (hS.cell (p := ⟨bt0, ot0, none⟩) lt0).trans ct0; have y1 := (hS.cell (p := ⟨bt0, ot0 + 1, none⟩) lt0).trans ct1; have zl := Nat.lt_of_lt_of_le hal hS.size; have yl := Nat.lt_of_lt_of_le lt0 hS.size; obtain _ := hS; (try simp at hD); (try simp only [hD]); (first | (go_simp; done) | (go_simp; rfl))
  simp only [List.nil_append, List.cons_append]
  refine zce ?_ (fun vs W hD => (by first | rfl | (simp at hD; simp [Region.wanted, yielded, hD]))) (fun vs W hS hD => ?_) ?_
  rotate_left
  · have z0 := (hS.cell (p := ⟨w.heap.size, 0, none⟩) hal).trans a0; have y0 := (hS.cell (p := ⟨bt0, ot0, none⟩) lt0).trans ct0; have y1 := (hS.cell (p := ⟨bt0, ot0 + 1, none⟩) lt0).trans ct1; have zl := Nat.lt_of_lt_of_le hal hS.size; have yl := Nat.lt_of_lt_of_le lt0 hS.size; obtain _ := hS; (try simp at hD); (try simp only [hD]); (first | (go_simp; done) | (go_simp; rfl))
  simp only [List.nil_append, List.cons_append]
  refine zce ?_ (fun vs W hD => (by first | rfl | (simp at hD; simp [Region.wanted, yielded, hD]))) (fun vs W hS hD => ?_) ?_
  rotate_left
  · have z0 := (hS.cell (p := ⟨w.heap.size, 0, none⟩) hal).trans a0; have y0 := (hS.cell (p := ⟨bt0, ot0, none⟩) lt0).trans ct0; have y1 := (hS.cell (p := ⟨bt0, ot0 + 1, none⟩) lt0).trans ct1; have zl := Nat.lt_of_lt_of_le hal hS.size; have yl := Nat.lt_of_lt_of_le lt0 hS.size; obtain _ := hS; (try simp at hD); (try simp only [hD]); (first | (go_simp; done) | (go_simp; rfl))
  simp only [List.nil_append, List.cons_append]
  refine zce (.bool bb) (fun vs W hD => (by first | rfl | (simp at hD; simp [Region.wanted, yielded, hD]))) (fun vs W hS hD => ?_) ?_
  · have z0 := (hS.cell (p := ⟨w.heap.size, 0, none⟩) hal).trans a0; have y0 := (hS.cell (p := ⟨bt0, ot0, none⟩) lt0).trans ct0; have y1 := (hS.cell (p := ⟨bt0, ot0 + 1, none⟩) lt0).trans ct1; have zl := Nat.lt_of_lt_of_le hal hS.size; have yl := Nat.lt_of_lt_of_le lt0 hS.size; obtain _ := hS; (try simp at hD); (try simp only [hD]); (first | (go_simp; done) | (go_simp; rfl))
  simp only [List.nil_append, List.cons_append]
  refine znf (f := 51) (fun v _ => v = .agg #[.int .u8 2, .int .i64 bn, .string ⟨#[]⟩]) (zgy _) (fun vs => #[.bool bb]) (fun vs W hD => (by first | rfl | (simp at hD; simp [Region.wanted, yielded, hD]))) (fun vs W hS hD => ?_) (fun vs W hS hD => ?_) ?_
  · obtain _ := hS; (try simp at hD); (try simp only [hD]); go_simp; done
  · exact (HT.out W).mono fun e W' ⟨he, hB⟩ => ⟨⟨_, he, rfl⟩, hB⟩
  simp only [List.nil_append, List.cons_append]
  refine zh5 fun vs W hS hv => ?_
  simp only [AllF, Nat.zero_add, Nat.reduceAdd] at hv
  obtain ⟨h0, h1, h2, h3, h4, h5, h6, h7, h8, h9, _⟩ := hv
  simp only [h0, h1, h2, h3, h4, h5, h6, h7, h8, h9]
  refine ⟨?_, HX.out.later hS, Below.next HB.out hS⟩
  rfl
 case sto =>
  rintro i o act T X ho hi hTi ⟨rfl, hX1, hX3⟩
  match i, hi with
  | 10, _ =>
   obtain rfl := Option.some.inj ho
   refine ⟨rfl, ?_⟩
   rw [hTi] at hX1
   simp only [Bool.false_eq_true, if_false] at hX1
   obtain ⟨c0, c1, c2, f0, f1, f2⟩ := hX1.cells
   have hl := hX1.lt
   obtain ⟨q1, q2⟩ := zae hX1 2 bn ⟨#[]⟩
   have hB : Below w.heap.size w (((X.setCell ⟨w.heap.size + 1, 0, none⟩ (.int .u8 2)).setCell ⟨w.heap.size + 1, 1, none⟩ (.int .i64 bn)).setCell ⟨w.heap.size + 1, 2, none⟩ (.string ⟨#[]⟩)) := hX3.grown q2 hX3.size (fun q hq => by injection hq with hq; omega)
   unfold OperR
   go_simp
   exact q1
  | j + 11, _ => cases ho
 case fin =>
  rintro act T X hT ⟨rfl, hX1, hX3⟩
  rw [hT 10 (by decide) (by decide)] at hX1
  simp only [if_true] at hX1
  have HB4 := Lib.hid hX3
  obtain ⟨y0, y1, y2, _, _, _⟩ := hX1.cells
  clear hX3
  go_wp2_with fail
  refine bodyPost_ret (v := .agg #[.int .u8 2, .int .i64 bn, .string ⟨#[]⟩]) (by simp [results, Tryz.results159, go_sem, y0, y1, y2]) rfl ⟨by rw [HV.out]; rfl, HB4.out⟩
end Go.Proofs.YtdhahiodnmmkeaaGreatDoor.Va
/- The table of the functions of ftext. -/
namespace Go.Proofs.YtdhahiodnmmkeaaGreatDoor.Va
open Go Go.RowKit GM
set_option linter.unusedVariables false
set_option linter.unusedSimpArgs false
def FTab (W : World) (q : Nat) (a b : Value) : Prop := W.heap[q]? = some (.map #[{ key := .int .u8 31, val := .func (.func 150) #[.agg #[a, b]] #[], born := 0 }, { key := .int .u8 32, val := .func (.func 151) #[.agg #[a, b]] #[], born := 1 }, { key := .int .u8 33, val := .func (.func 152) #[.agg #[a, b]] #[], born := 2 }, { key := .int .u8 34, val := .func (.func 153) #[.agg #[a, b]] #[], born := 3 }, { key := .int .u8 35, val := .func (.func 154) #[.agg #[a, b]] #[], born := 4 }, { key := .int .u8 36, val := .func (.func 155) #[.agg #[a, b]] #[], born := 5 }, { key := .int .u8 37, val := .func (.func 156) #[.agg #[a, b]] #[], born := 6 }, { key := .int .u8 38, val := .func (.func 157) #[.agg #[a, b]] #[], born := 7 }, { key := .int .u8 39, val := .func (.func 158) #[.agg #[a, b]] #[], born := 8 }, { key := .int .u8 40, val := .func (.func 159) #[.agg #[a, b]] #[], born := 9 }, { key := .int .u8 41, val := .func (.func 160) #[.agg #[a, b]] #[], born := 10 }, { key := .int .u8 42, val := .func (.func 161) #[.agg #[a, b]] #[], born := 11 }] 12)
set_option maxRecDepth 100000 in
set_option maxHeartbeats 3200000 in
theorem yh6 (w : World) (a b : Value) : ∃ V1 V2 V3 V4 V5 V6 V7 V8 V9 V10 V11 V12 : World,
 (Instr.mapUpdate 86 (.map (some (w.heap.size + 1))) (.int .u8 31) (.func (.func 150) #[.agg #[a, b]] #[])).run Tryz.prog ((w.alloc (.cells #[a, b] 82)).alloc (.map #[] 0)) = .ok () V1 ∧
 (Instr.mapUpdate 86 (.map (some (w.heap.size + 1))) (.int .u8 32) (.func (.func 151) #[.agg #[a, b]] #[])).run Tryz.prog V1 = .ok () V2 ∧
 (Instr.mapUpdate 86 (.map (some (w.heap.size + 1))) (.int .u8 33) (.func (.func 152) #[.agg #[a, b]] #[])).run Tryz.prog V2 = .ok () V3 ∧
 (Instr.mapUpdate 86 (.map (some (w.heap.size + 1))) (.int .u8 34) (.func (.func 153) #[.agg #[a, b]] #[])).run Tryz.prog V3 = .ok () V4 ∧
 (Instr.mapUpdate 86 (.map (some (w.heap.size + 1))) (.int .u8 35) (.func (.func 154) #[.agg #[a, b]] #[])).run Tryz.prog V4 = .ok () V5 ∧
 (Instr.mapUpdate 86 (.map (some (w.heap.size + 1))) (.int .u8 36) (.func (.func 155) #[.agg #[a, b]] #[])).run Tryz.prog V5 = .ok () V6 ∧
 (Instr.mapUpdate 86 (.map (some (w.heap.size + 1))) (.int .u8 37) (.func (.func 156) #[.agg #[a, b]] #[])).run Tryz.prog V6 = .ok () V7 ∧
 (Instr.mapUpdate 86 (.map (some (w.heap.size + 1))) (.int .u8 38) (.func (.func 157) #[.agg #[a, b]] #[])).run Tryz.prog V7 = .ok () V8 ∧
 (Instr.mapUpdate 86 (.map (some (w.heap.size + 1))) (.int .u8 39) (.func (.func 158) #[.agg #[a, b]] #[])).run Tryz.prog V8 = .ok () V9 ∧
 (Instr.mapUpdate 86 (.map (some (w.heap.size + 1))) (.int .u8 40) (.func (.func 159) #[.agg #[a, b]] #[])).run Tryz.prog V9 = .ok () V10 ∧
 (Instr.mapUpdate 86 (.map (some (w.heap.size + 1))) (.int .u8 41) (.func (.func 160) #[.agg #[a, b]] #[])).run Tryz.prog V10 = .ok () V11 ∧
 (Instr.mapUpdate 86 (.map (some (w.heap.size + 1))) (.int .u8 42) (.func (.func 161) #[.agg #[a, b]] #[])).run Tryz.prog V11 = .ok () V12 ∧
 (V1.cell? ⟨w.heap.size, 0, none⟩ = some a ∧ V1.cell? ⟨w.heap.size, 1, none⟩ = some b) ∧
 (V2.cell? ⟨w.heap.size, 0, none⟩ = some a ∧ V2.cell? ⟨w.heap.size, 1, none⟩ = some b) ∧
 (V3.cell? ⟨w.heap.size, 0, none⟩ = some a ∧ V3.cell? ⟨w.heap.size, 1, none⟩ = some b) ∧
 (V4.cell? ⟨w.heap.size, 0, none⟩ = some a ∧ V4.cell? ⟨w.heap.size, 1, none⟩ = some b) ∧
 (V5.cell? ⟨w.heap.size, 0, none⟩ = some a ∧ V5.cell? ⟨w.heap.size, 1, none⟩ = some b) ∧
 (V6.cell? ⟨w.heap.size, 0, none⟩ = some a ∧ V6.cell? ⟨w.heap.size, 1, none⟩ = some b) ∧
 (V7.cell? ⟨w.heap.size, 0, none⟩ = some a ∧ V7.cell? ⟨w.heap.size, 1, none⟩ = some b) ∧
 (V8.cell? ⟨w.heap.size, 0, none⟩ = some a ∧ V8.cell? ⟨w.heap.size, 1, none⟩ = some b) ∧
 (V9.cell? ⟨w.heap.size, 0, none⟩ = some a ∧ V9.cell? ⟨w.heap.size, 1, none⟩ = some b) ∧
 (V10.cell? ⟨w.heap.size, 0, none⟩ = some a ∧ V10.cell? ⟨w.heap.size, 1, none⟩ = some b) ∧
 (V11.cell? ⟨w.heap.size, 0, none⟩ = some a ∧ V11.cell? ⟨w.heap.size, 1, none⟩ = some b) ∧
 FTab V12 (w.heap.size + 1) a b ∧ Below w.heap.size w V12 := by
 have hu : Tryz.prog.underlying 86 = some (.map 5 85) := rfl
 have hk : Tryz.prog.underlying 5 = some (.int .u8) := rfl
 have hs : ((w.alloc (.cells #[a, b] 82)).alloc (.map #[] 0)).heap.size = w.heap.size + 2 := by simp
 have h0 : ((w.alloc (.cells #[a, b] 82)).alloc (.map #[] 0)).heap[w.heap.size + 1]? = some (.map #[] 0) := by
  have := World.alloc_heap_new (w.alloc (.cells #[a, b] 82)) (.map #[] 0)
  rwa [World.size_alloc] at this
 have c0 : ((w.alloc (.cells #[a, b] 82)).alloc (.map #[] 0)).heap[w.heap.size]? = some (.cells #[a, b] 82) := by
  exact ((zaa (w.alloc (.cells #[a, b] 82)) (.map #[] 0)).block w.heap.size (by simp)).trans (World.alloc_heap_new _ _)
 have hB : Below w.heap.size w ((w.alloc (.cells #[a, b] 82)).alloc (.map #[] 0)) := zab (zaa _ _) (zaa _ _)
 generalize ((w.alloc (.cells #[a, b] 82)).alloc (.map #[] 0)) = U0 at *
 have put : ∀ (W : World) (o : Obj), W.heap.size = w.heap.size + 2 → (W.putObj (w.heap.size + 1) o).heap[w.heap.size + 1]? = some o ∧ (W.putObj (w.heap.size + 1) o).heap[w.heap.size]? = W.heap[w.heap.size]? ∧ (W.putObj (w.heap.size + 1) o).heap.size = w.heap.size + 2 :=
  fun W o h => ⟨World.putObj_heap_same (by omega), World.putObj_heap_other (by omega), by simp [h]⟩
 have pb : ∀ (W : World) (o : Obj), W.heap.size = w.heap.size + 2 → Below w.heap.size W (W.putObj (w.heap.size + 1) o) := fun W o h => (Below.refl _ W).grown (grownBy_putObj' W _ o) (by omega) (fun k e => by cases e; omega)
 have s0 := hs
 have cc : ∀ (W : World), W.heap[w.heap.size]? = some (.cells #[a, b] 82) → W.cell? ⟨w.heap.size, 0, none⟩ = some a ∧ W.cell? ⟨w.heap.size, 1, none⟩ = some b := fun W h => ⟨by simp [World.cell?, h], by simp [World.cell?, h]⟩
 have r1 := za6 hu hk h0 31 (.func (.func 150) #[.agg #[a, b]] #[]) rfl
 obtain ⟨h1, c1, s1⟩ := put U0 (.map #[{ key := .int .u8 31, val := .func (.func 150) #[.agg #[a, b]] #[], born := 0 }] 1) s0
 have p1 := pb U0 (.map #[{ key := .int .u8 31, val := .func (.func 150) #[.agg #[a, b]] #[], born := 0 }] 1) s0
 rw [c0] at c1
 generalize hU1 : U0.putObj (w.heap.size + 1) (.map #[{ key := .int .u8 31, val := .func (.func 150) #[.agg #[a, b]] #[], born := 0 }] 1) = U1 at *
 replace r1 : (Instr.mapUpdate 86 (.map (some (w.heap.size + 1))) (.int .u8 31) (.func (.func 150) #[.agg #[a, b]] #[])).run Tryz.prog U0 = .ok () U1 := by rw [← hU1]; exact r1
 clear hU1
 have r2 := za6 hu hk h1 32 (.func (.func 151) #[.agg #[a, b]] #[]) rfl
 obtain ⟨h2, c2, s2⟩ := put U1 (.map #[{ key := .int .u8 31, val := .func (.func 150) #[.agg #[a, b]] #[], born := 0 }, { key := .int .u8 32, val := .func (.func 151) #[.agg #[a, b]] #[], born := 1 }] 2) s1
 have p2 := pb U1 (.map #[{ key := .int .u8 31, val := .func (.func 150) #[.agg #[a, b]] #[], born := 0 }, { key := .int .u8 32, val := .func (.func 151) #[.agg #[a, b]] #[], born := 1 }] 2) s1
 rw [c1] at c2
 generalize hU2 : U1.putObj (w.heap.size + 1) (.map #[{ key := .int .u8 31, val := .func (.func 150) #[.agg #[a, b]] #[], born := 0 }, { key := .int .u8 32, val := .func (.func 151) #[.agg #[a, b]] #[], born := 1 }] 2) = U2 at *
 replace r2 : (Instr.mapUpdate 86 (.map (some (w.heap.size + 1))) (.int .u8 32) (.func (.func 151) #[.agg #[a, b]] #[])).run Tryz.prog U1 = .ok () U2 := by rw [← hU2]; exact r2
 clear hU2
 have r3 := za6 hu hk h2 33 (.func (.func 152) #[.agg #[a, b]] #[]) rfl
 obtain ⟨h3, c3, s3⟩ := put U2 (.map #[{ key := .int .u8 31, val := .func (.func 150) #[.agg #[a, b]] #[], born := 0 }, { key := .int .u8 32, val := .func (.func 151) #[.agg #[a, b]] #[], born := 1 }, { key := .int .u8 33, val := .func (.func 152) #[.agg #[a, b]] #[], born := 2 }] 3) s2
 have p3 := pb U2 (.map #[{ key := .int .u8 31, val := .func (.func 150) #[.agg #[a, b]] #[], born := 0 }, { key := .int .u8 32, val := .func (.func 151) #[.agg #[a, b]] #[], born := 1 }, { key := .int .u8 33, val := .func (.func 152) #[.agg #[a, b]] #[], born := 2 }] 3) s2
 rw [c2] at c3
 generalize hU3 : U2.putObj (w.heap.size + 1) (.map #[{ key := .int .u8 31, val := .func (.func 150) #[.agg #[a, b]] #[], born := 0 }, { key := .int .u8 32, val := .func (.func 151) #[.agg #[a, b]] #[], born := 1 }, { key := .int .u8 33, val := .func (.func 152) #[.agg #[a, b]] #[], born := 2 }] 3) = U3 at *
 replace r3 : (Instr.mapUpdate 86 (.map (some (w.heap.size + 1))) (.int .u8 33) (.func (.func 152) #[.agg #[a, b]] #[])).run Tryz.prog U2 = .ok () U3 := by rw [← hU3]; exact r3
 clear hU3
 have r4 := za6 hu hk h3 34 (.func (.func 153) #[.agg #[a, b]] #[]) rfl
 obtain ⟨h4, c4, s4⟩ := put U3 (.map #[{ key := .int .u8 31, val := .func (.func 150) #[.agg #[a, b]] #[], born := 0 }, { key := .int .u8 32, val := .func (.func 151) #[.agg #[a, b]] #[], born := 1 }, { key := .int .u8 33, val := .func (.func 152) #[.agg #[a, b]] #[], born := 2 }, { key := .int .u8 34, val := .func (.func 153) #[.agg #[a, b]] #[], born := 3 }] 4) s3
 have p4 := pb U3 (.map #[{ key := .int .u8 31, val := .func (.func 150) #[.agg #[a, b]] #[], born := 0 }, { key := .int .u8 32, val := .func (.func 151) #[.agg #[a, b]] #[], born := 1 }, { key := .int .u8 33, val := .func (.func 152) #[.agg #[a, b]] #[], born := 2 }, { key := .int .u8 34, val := .func (.func 153) #[.agg #[a, b]] #[], born := 3 }] 4) s3
 rw [c3] at c4
 generalize hU4 : U3.putObj (w.heap.size + 1) (.map #[{ key := .int .u8 31, val := .func (.func 150) #[.agg #[a, b]] #[], born := 0 }, { key := .int .u8 32, val := .func (.func 151) #[.agg #[a, b]] #[], born := 1 }, { key := .int .u8 33, val := .func (.func 152) #[.agg #[a, b]] #[], born := 2 }, { key := .int .u8 34, val := .func (.func 153) #[.agg #[a, b]] #[], born := 3 }] 4) = U4 at *
 replace r4 : (Instr.mapUpdate 86 (.map (some (w.heap.size + 1))) (.int .u8 34) (.func (.func 153) #[.agg #[a, b]] #[])).run Tryz.prog U3 = .ok () U4 := by rw [← hU4]; exact r4
 clear hU4
 have r5 := za6 hu hk h4 35 (.func (.func 154) #[.agg #[a, b]] #[]) rfl
 obtain ⟨h5, c5, s5⟩ := put U4 (.map #[{ key := .int .u8 31, val := .func (.func 150) #[.agg #[a, b]] #[], born := 0 }, { key := .int .u8 32, val := .func (.func 151) #[.agg #[a, b]] #[], born := 1 }, { key := .int .u8 33, val := .func (.func 152) #[.agg #[a, b]] #[], born := 2 }, { key := .int .u8 34, val := .func (.func 153) #[.agg #[a, b]] #[], born := 3 }, { key := .int .u8 35, val := .func (.func 154) #[.agg #[a, b]] #[], born := 4 }] 5) s4
 have p5 := pb U4 (.map #[{ key := .int .u8 31, val := .func (.func 150) #[.agg #[a, b]] #[], born := 0 }, { key := .int .u8 32, val := .func (.func 151) #[.agg #[a, b]] #[], born := 1 }, { key := .int .u8 33, val := .func (.func 152) #[.agg #[a, b]] #[], born := 2 }, { key := .int .u8 34, val := .func (.func 153) #[.agg #[a, b]] #[], born := 3 }, { key := .int .u8 35, val := .func (.func 154) #[.agg #[a, b]] #[], born := 4 }] 5) s4
 rw [c4] at c5
 generalize hU5 : U4.putObj (w.heap.size + 1) (.map #[{ key := .int .u8 31, val := .func (.func 150) #[.agg #[a, b]] #[], born := 0 }, { key := .int .u8 32, val := .func (.func 151) #[.agg #[a, b]] #[], born := 1 }, { key := .int .u8 33, val := .func (.func 152) #[.agg #[a, b]] #[], born := 2 }, { key := .int .u8 34, val := .func (.func 153) #[.agg #[a, b]] #[], born := 3 }, { key := .int .u8 35, val := .func (.func 154) #[.agg #[a, b]] #[], born := 4 }] 5) = U5 at *
 replace r5 : (Instr.mapUpdate 86 (.map (some (w.heap.size + 1))) (.int .u8 35) (.func (.func 154) #[.agg #[a, b]] #[])).run Tryz.prog U4 = .ok () U5 := by rw [← hU5]; exact r5
 clear hU5
 have r6 := za6 hu hk h5 36 (.func (.func 155) #[.agg #[a, b]] #[]) rfl
 obtain ⟨h6, c6, s6⟩ := put U5 (.map #[{ key := .int .u8 31, val := .func (.func 150) #[.agg #[a, b]] #[], born := 0 }, { key := .int .u8 32, val := .func (.func 151) #[.agg #[a, b]] #[], born := 1 }, { key := .int .u8 33, val := .func (.func 152) #[.agg #[a, b]] #[], born := 2 }, { key := .int .u8 34, val := .func (.func 153) #[.agg #[a, b]] #[], born := 3 }, { key := .int .u8 35, val := .func (.func 154) #[.agg #[a, b]] #[], born := 4 }, { key := .int .u8 36, val := .func (.func 155) #[.agg #[a, b]] #[], born := 5 }] 6) s5
 have p6 := pb U5 (.map #[{ key := .int .u8 31, val := .func (.func 150) #[.agg #[a, b]] #[], born := 0 }, { key := .int .u8 32, val := .func (.func 151) #[.agg #[a, b]] #[], born := 1 }, { key := .int .u8 33, val := .func (.func 152) #[.agg #[a, b]] #[], born := 2 }, { key := .int .u8 34, val := .func (.func 153) #[.agg #[a, b]] #[], born := 3 }, { key := .int .u8 35, val := .func (.func 154) #[.agg #[a, b]] #[], born := 4 }, { key := .int .u8 36, val := .func (.func 155) #[.agg #[a, b]] #[], born := 5 }] 6) s5
 rw [c5] at c6
 generalize hU6 : U5.putObj (w.heap.size + 1) (.map #[{ key := .int .u8 31, val := .func (.func 150) #[.agg #[a, b]] #[], born := 0 }, { key := .int .u8 32, val := .func (.func 151) #[.agg #[a, b]] #[], born := 1 }, { key := .int .u8 33, val := .func (.func 152) #[.agg #[a, b]] #[], born := 2 }, { key := .int .u8 34, val := .func (.func 153) #[.agg #[a, b]] #[], born := 3 }, { key := .int .u8 35, val := .func (.func 154) #[.agg #[a, b]] #[], born := 4 }, { key := .int .u8 36, val := .func (.func 155) #[.agg #[a, b]] #[], born := 5 }] 6) = U6 at *
 replace r6 : (Instr.mapUpdate 86 (.map (some (w.heap.size + 1))) (.int .u8 36) (.func (.func 155) #[.agg #[a, b]] #[])).run Tryz.prog U5 = .ok () U6 := by rw [← hU6]; exact r6
 clear hU6
 have r7 := za6 hu hk h6 37 (.func (.func 156) #[.agg #[a, b]] #[]) rfl
 obtain ⟨h7, c7, s7⟩ := put U6 (.map #[{ key := .int .u8 31, val := .func (.func 150) #[.agg #[a, b]] #[], born := 0 }, { key := .int .u8 32, val := .func (.func 151) #[.agg #[a, b]] #[], born := 1 }, { key := .int .u8 33, val := .func (.func 152) #[.agg #[a, b]] #[], born := 2 }, { key := .int .u8 34, val := .func (.func 153) #[.agg #[a, b]] #[], born := 3 }, { key := .int .u8 35, val := .func (.func 154) #[.agg #[a, b]] #[], born := 4 }, { key := .int .u8 36, val := .func (.func 155) #[.agg #[a, b]] #[], born := 5 }, { key := .int .u8 37, val := .func (.func 156) #[.agg #[a, b]] #[], born := 6 }] 7) s6
 have p7 := pb U6 (.map #[{ key := .int .u8 31, val := .func (.func 150) #[.agg #[a, b]] #[], born := 0 }, { key := .int .u8 32, val := .func (.func 151) #[.agg #[a, b]] #[], born := 1 }, { key := .int .u8 33, val := .func (.func 152) #[.agg #[a, b]] #[], born := 2 }, { key := .int .u8 34, val := .func (.func 153) #[.agg #[a, b]] #[], born := 3 }, { key := .int .u8 35, val := .func (.func 154) #[.agg #[a, b]] #[], born := 4 }, { key := .int .u8 36, val := .func (.func 155) #[.agg #[a, b]] #[], born := 5 }, { key := .int .u8 37, val := .func (.func 156) #[.agg #[a, b]] #[], born := 6 }] 7) s6
 rw [c6] at c7
 generalize hU7 : U6.putObj (w.heap.size + 1) (.map #[{ key := .int .u8 31, val := .func (.func 150) #[.agg #[a, b]] #[], born := 0 }, { key := .int .u8 32, val := .func (.func 151) #[.agg #[a, b]] #[], born := 1 }, { key := .int .u8 33, val := .func (.func 152) #[.agg #[a, b]] #[], born := 2 }, { key := .int .u8 34, val := .func (.func 153) #[.agg #[a, b]] #[], born := 3 }, { key := .int .u8 35, val := .func (.func 154) #[.agg #[a, b]] #[], born := 4 }, { key := .int .u8 36, val := .func (.func 155) #[.agg #[a, b]] #[], born := 5 }, { key := .int .u8 37, val := .func (.func 156) #[.agg #[a, b]] #[], born := 6 }] 7) = U7 at *
 replace r7 : (Instr.mapUpdate 86 (.map (some (w.heap.size + 1))) (.int .u8 37) (.func (.func 156) #[.agg #[a, b]] #[])).run Tryz.prog U6 = .ok () U7 := by rw [← hU7]; exact r7
 clear hU7
 have r8 := za6 hu hk h7 38 (.func (.func 157) #[.agg #[a, b]] #[]) rfl
 obtain ⟨h8, c8, s8⟩ := put U7 (.map #[{ key := .int .u8 31, val := .func (.func 150) #[.agg #[a, b]] #[], born := 0 }, { key := .int .u8 32, val := .func (.func 151) #[.agg #[a, b]] #[], born := 1 }, { key := .int .u8 33, val := .func (.func 152) #[.agg #[a, b]] #[], born := 2 }, { key := .int .u8 34, val := .func (.func 153) #[.agg #[a, b]] #[], born := 3 }, { key := .int .u8 35, val := .func (.func 154) #[.agg #[a, b]] #[], born := 4 }, { key := .int .u8 36, val := .func (.func 155) #[.agg #[a, b]] #[], born := 5 }, { key := .int .u8 37, val := .func (.func 156) #[.agg #[a, b]] #[], born := 6 }, { key := .int .u8 38, val := .func (.func 157) #[.agg #[a, b]] #[], born := 7 }] 8) s7
 have p8 := pb U7 (.map #[{ key := .int .u8 31, val := .func (.func 150) #[.agg #[a, b]] #[], born := 0 }, { key := .int .u8 32, val := .func (.func 151) #[.agg #[a, b]] #[], born := 1 }, { key := .int .u8 33, val := .func (.func 152) #[.agg #[a, b]] #[], born := 2 }, { key := .int .u8 34, val := .func (.func 153) #[.agg #[a, b]] #[], born := 3 }, { key := .int .u8 35, val := .func (.func 154) #[.agg #[a, b]] #[], born := 4 }, { key := .int .u8 36, val := .func (.func 155) #[.agg #[a, b]] #[], born := 5 }, { key := .int .u8 37, val := .func (.func 156) #[.agg #[a, b]] #[], born := 6 }, { key := .int .u8 38, val := .func (.func 157) #[.agg #[a, b]] #[], born := 7 }] 8) s7
 rw [c7] at c8
 generalize hU8 : U7.putObj (w.heap.size + 1) (.map #[{ key := .int .u8 31, val := .func (.func 150) #[.agg #[a, b]] #[], born := 0 }, { key := .int .u8 32, val := .func (.func 151) #[.agg #[a, b]] #[], born := 1 }, { key := .int .u8 33, val := .func (.func 152) #[.agg #[a, b]] #[], born := 2 }, { key := .int .u8 34, val := .func (.func 153) #[.agg #[a, b]] #[], born := 3 }, { key := .int .u8 35, val := .func (.func 154) #[.agg #[a, b]] #[], born := 4 }, { key := .int .u8 36, val := .func (.func 155) #[.agg #[a, b]] #[], born := 5 }, { key := .int .u8 37, val := .func (.func 156) #[.agg #[a, b]] #[], born := 6 }, { key := .int .u8 38, val := .func (.func 157) #[.agg #[a, b]] #[], born := 7 }] 8) = U8 at *
 replace r8 : (Instr.mapUpdate 86 (.map (some (w.heap.size + 1))) (.int .u8 38) (.func (.func 157) #[.agg #[a, b]] #[])).run Tryz.prog U7 = .ok () U8 := by rw [← hU8]; exact r8
 clear hU8
 have r9 := za6 hu hk h8 39 (.func (.func 158) #[.agg #[a, b]] #[]) rfl
 obtain ⟨h9, c9, s9⟩ := put U8 (.map #[{ key := .int .u8 31, val := .func (.func 150) #[.agg #[a, b]] #[], born := 0 }, { key := .int .u8 32, val := .func (.func 151) #[.agg #[a, b]] #[], born := 1 }, { key := .int .u8 33, val := .func (.func 152) #[.agg #[a, b]] #[], born := 2 }, { key := .int .u8 34, val := .func (.func 153) #[.agg #[a, b]] #[], born := 3 }, { key := .int .u8 35, val := .func (.func 154) #[.agg #[a, b]] #[], born := 4 }, { key := .int .u8 36, val := .func (.func 155) #[.agg #[a, b]] #[], born := 5 }, { key := .int .u8 37, val := .func (.func 156) #[.agg #[a, b]] #[], born := 6 }, { key := .int .u8 38, val := .func (.func 157) #[.agg #[a, b]] #[], born := 7 }, { key := .int .u8 39, val := .func (.func 158) #[.agg #[a, b]] #[], born := 8 }] 9) s8
 have p9 := pb U8 (.map #[{ key := .int .u8 31, val := .func (.func 150) #[.agg #[a, b]] #[], born := 0 }, { key := .int .u8 32, val := .func (.func 151) #[.agg #[a, b]] #[], born := 1 }, { key := .int .u8 33, val := .func (.func 152) #[.agg #[a, b]] #[], born := 2 }, { key := .int .u8 34, val := .func (.func 153) #[.agg #[a, b]] #[], born := 3 }, { key := .int .u8 35, val := .func (.func 154) #[.agg #[a, b]] #[], born := 4 }, { key := .int .u8 36, val := .func (.func 155) #[.agg #[a, b]] #[], born := 5 }, { key := .int .u8 37, val := .func (.func 156) #[.agg #[a, b]] #[], born := 6 }, { key := .int .u8 38, val := .func (.func 157) #[.agg #[a, b]] #[], born := 7 }, { key := .int .u8 39, val := .func (.func 158) #[.agg #[a, b]] #[], born := 8 }] 9) s8
 rw [c8] at c9
 generalize hU9 : U8.putObj (w.heap.size + 1) (.map #[{ key := .int .u8 31, val := .func (.func 150) #[.agg #[a, b]] #[], born := 0 }, { key := .int .u8 32, val := .func (.func 151) #[.agg #[a, b]] #[], born := 1 }, { key := .int .u8 33, val := .func (.func 152) #[.agg #[a, b]] #[], born := 2 }, { key := .int .u8 34, val := .func (.func 153) #[.agg #[a, b]] #[], born := 3 }, { key := .int .u8 35, val := .func (.func 154) #[.agg #[a, b]] #[], born := 4 }, { key := .int .u8 36, val := .func (.func 155) #[.agg #[a, b]] #[], born := 5 }, { key := .int .u8 37, val := .func (.func 156) #[.agg #[a, b]] #[], born := 6 }, { key := .int .u8 38, val := .func (.func 157) #[.agg #[a, b]] #[], born := 7 }, { key := .int .u8 39, val := .func (.func 158) #[.agg #[a, b]] #[], born := 8 }] 9) = U9 at *
 replace r9 : (Instr.mapUpdate 86 (.map (some (w.heap.size + 1))) (.int .u8 39) (.func (.func 158) #[.agg #[a, b]] #[])).run Tryz.prog U8 = .ok () U9 := by rw [← hU9]; exact r9
 clear hU9
 have r10 := za6 hu hk h9 40 (.func (.func 159) #[.agg #[a, b]] #[]) rfl
 obtain ⟨h10, c10, s10⟩ := put U9 (.map #[{ key := .int .u8 31, val := .func (.func 150) #[.agg #[a, b]] #[], born := 0 }, { key := .int .u8 32, val := .func (.func 151) #[.agg #[a, b]] #[], born := 1 }, { key := .int .u8 33, val := .func (.func 152) #[.agg #[a, b]] #[], born := 2 }, { key := .int .u8 34, val := .func (.func 153) #[.agg #[a, b]] #[], born := 3 }, { key := .int .u8 35, val := .func (.func 154) #[.agg #[a, b]] #[], born := 4 }, { key := .int .u8 36, val := .func (.func 155) #[.agg #[a, b]] #[], born := 5 }, { key := .int .u8 37, val := .func (.func 156) #[.agg #[a, b]] #[], born := 6 }, { key := .int .u8 38, val := .func (.func 157) #[.agg #[a, b]] #[], born := 7 }, { key := .int .u8 39, val := .func (.func 158) #[.agg #[a, b]] #[], born := 8 }, { key := .int .u8 40, val := .func (.func 159) #[.agg #[a, b]] #[], born := 9 }] 10) s9
 have p10 := pb U9 (.map #[{ key := .int .u8 31, val := .func (.func 150) #[.agg #[a, b]] #[], born := 0 }, { key := .int .u8 32, val := .func (.func 151) #[.agg #[a, b]] #[], born := 1 }, { key := .int .u8 33, val := .func (.func 152) #[.agg #[a, b]] #[], born := 2 }, { key := .int .u8 34, val := .func (.func 153) #[.agg #[a, b]] #[], born := 3 }, { key := .int .u8 35, val := .func (.func 154) #[.agg #[a, b]] #[], born := 4 }, { key := .int .u8 36, val := .func (.func 155) #[.agg #[a, b]] #[], born := 5 }, { key := .int .u8 37, val := .func (.func 156) #[.agg #[a, b]] #[], born := 6 }, { key := .int .u8 38, val := .func (.func 157) #[.agg #[a, b]] #[], born := 7 }, { key := .int .u8 39, val := .func (.func 158) #[.agg #[a, b]] #[], born := 8 }, { key := .int .u8 40, val := .func (.func 159) #[.agg #[a, b]] #[], born := 9 }] 10) s9
 rw [c9] at c10
 generalize hU10 : U9.putObj (w.heap.size + 1) (.map #[{ key := .int .u8 31, val := .func (.func 150) #[.agg #[a, b]] #[], born := 0 }, { key := .int .u8 32, val := .func (.func 151) #[.agg #[a, b]] #[], born := 1 }, { key := .int .u8 33, val := .func (.func 152) #[.agg #[a, b]] #[], born := 2 }, { key := .int .u8 34, val := .func (.func 153) #[.agg #[a, b]] #[], born := 3 }, { key := .int .u8 35, val := .func (.func 154) #[.agg #[a, b]] #[], born := 4 }, { key := .int .u8 36, val := .func (.func 155) #[.agg #[a, b]] #[], born := 5 }, { key := .int .u8 37, val := .func (.func 156) #[.agg #[a, b]] #[], born := 6 }, { key := .int .u8 38, val := .func (.func 157) #[.agg #[a, b]] #[], born := 7 }, { key := .int .u8 39, val := .func (.func 158) #[.agg #[a, b]] #[], born := 8 }, { key := .int .u8 40, val := .func (.func 159) #[.agg #[a, b]] #[], born := 9 }] 10) = U10 at *
 replace r10 : (Instr.mapUpdate 86 (.map (some (w.heap.size + 1))) (.int .u8 40) (.func (.func 159) #[.agg #[a, b]] #[])).run Tryz.prog U9 = .ok () U10 := by rw [← hU10]; exact r10
 clear hU10
 have r11 := za6 hu hk h10 41 (.func (.func 160) #[.agg #[a, b]] #[]) rfl
 obtain ⟨h11, c11, s11⟩ := put U10 (.map #[{ key := .int .u8 31, val := .func (.func 150) #[.agg #[a, b]] #[], born := 0 }, { key := .int .u8 32, val := .func (.func 151) #[.agg #[a, b]] #[], born := 1 }, { key := .int .u8 33, val := .func (.func 152) #[.agg #[a, b]] #[], born := 2 }, { key := .int .u8 34, val := .func (.func 153) #[.agg #[a, b]] #[], born := 3 }, { key := .int .u8 35, val := .func (.func 154) #[.agg #[a, b]] #[], born := 4 }, { key := .int .u8 36, val := .func (.func 155) #[.agg #[a, b]] #[], born := 5 }, { key := .int .u8 37, val := .func (.func 156) #[.agg #[a, b]] #[], born := 6 }, { key := .int .u8 38, val := .func (.func 157) #[.agg #[a, b]] #[], born := 7 }, { key := .int .u8 39, val := .func (.func 158) #[.agg #[a, b]] #[], born := 8 }, { key := .int .u8 40, val := .func (.func 159) #[.agg #[a, b]] #[], born := 9 }, { key := .int .u8 41, val := .func (.func 160) #[.agg #[a, b]] #[], born := 10 }] 11) s10
 have p11 := pb U10 (.map #[{ key := .int .u8 31, val := .func (.func 150) #[.agg #[a, b]] #[], born := 0 }, { key := .int .u8 32, val := .func (.func 151) #[.agg #[a, b]] #[], born := 1 }, { key := .int .u8 33, val := .func (.func 152) #[.agg #[a, b]] #[], born := 2 }, { key := .int .u8 34, val := .func (.func 153) #[.agg #[a, b]] #[], born := 3 }, { key := .int .u8 35, val := .func (.func 154) #[.agg #[a, b]] #[], born := 4 }, { key := .int .u8 36, val := .func (.func 155) #[.agg #[a, b]] #[], born := 5 }, { key := .int .u8 37, val := .func (.func 156) #[.agg #[a, b]] #[], born := 6 }, { key := .int .u8 38, val := .func (.func 157) #[.agg #[a, b]] #[], born := 7 }, { key := .int .u8 39, val := .func (.func 158) #[.agg #[a, b]] #[], born := 8 }, { key := .int .u8 40, val := .func (.func 159) #[.agg #[a, b]] #[], born := 9 }, { key := .int .u8 41, val := .func (.func 160) #[.agg #[a, b]] #[], born := 10 }] 11) s10
 rw [c10] at c11
 generalize hU11 : U10.putObj (w.heap.size + 1) (.map #[{ key := .int .u8 31, val := .func (.func 150) #[.agg #[a, b]] #[], born := 0 }, { key := .int .u8 32, val := .func (.func 151) #[.agg #[a, b]] #[], born := 1 }, { key := .int .u8 33, val := .func (.func 152) #[.agg #[a, b]] #[], born := 2 }, { key := .int .u8 34, val := .func (.func 153) #[.agg #[a, b]] #[], born := 3 }, { key := .int .u8 35, val := .func (.func 154) #[.agg #[a, b]] #[], born := 4 }, { key := .int .u8 36, val := .func (.func 155) #[.agg #[a, b]] #[], born := 5 }, { key := .int .u8 37, val := .func (.func 156) #[.agg #[a, b]] #[], born := 6 }, { key := .int .u8 38, val := .func (.func 157) #[.agg #[a, b]] #[], born := 7 }, { key := .int .u8 39, val := .func (.func 158) #[.agg #[a, b]] #[], born := 8 }, { key := .int .u8 40, val := .func (.func 159) #[.agg #[a, b]] #[], born := 9 }, { key := .int .u8 41, val := .func (.func 160) #[.agg #[a, b]] #[], born := 10 }] 11) = U11 at *
 replace r11 : (Instr.mapUpdate 86 (.map (some (w.heap.size + 1))) (.int .u8 41) (.func (.func 160) #[.agg #[a, b]] #[])).run Tryz.prog U10 = .ok () U11 := by rw [← hU11]; exact r11
 clear hU11
 have r12 := za6 hu hk h11 42 (.func (.func 161) #[.agg #[a, b]] #[]) rfl
 obtain ⟨h12, c12, s12⟩ := put U11 (.map #[{ key := .int .u8 31, val := .func (.func 150) #[.agg #[a, b]] #[], born := 0 }, { key := .int .u8 32, val := .func (.func 151) #[.agg #[a, b]] #[], born := 1 }, { key := .int .u8 33, val := .func (.func 152) #[.agg #[a, b]] #[], born := 2 }, { key := .int .u8 34, val := .func (.func 153) #[.agg #[a, b]] #[], born := 3 }, { key := .int .u8 35, val := .func (.func 154) #[.agg #[a, b]] #[], born := 4 }, { key := .int .u8 36, val := .func (.func 155) #[.agg #[a, b]] #[], born := 5 }, { key := .int .u8 37, val := .func (.func 156) #[.agg #[a, b]] #[], born := 6 }, { key := .int .u8 38, val := .func (.func 157) #[.agg #[a, b]] #[], born := 7 }, { key := .int .u8 39, val := .func (.func 158) #[.agg #[a, b]] #[], born := 8 }, { key := .int .u8 40, val := .func (.func 159) #[.agg #[a, b]] #[], born := 9 }, { key := .int .u8 41, val := .func (.func 160) #[.agg #[a, b]] #[], born := 10 }, { key := .int .u8 42, val := .func (.func 161) #[.agg #[a, b]] #[], born := 11 }] 12) s11
 have p12 := pb U11 (.map #[{ key := .int .u8 31, val := .func (.func 150) #[.agg #[a, b]] #[], born := 0 }, { key := .int .u8 32, val := .func (.func 151) #[.agg #[a, b]] #[], born := 1 }, { key := .int .u8 33, val := .func (.func 152) #[.agg #[a, b]] #[], born := 2 }, { key := .int .u8 34, val := .func (.func 153) #[.agg #[a, b]] #[], born := 3 }, { key := .int .u8 35, val := .func (.func 154) #[.agg #[a, b]] #[], born := 4 }, { key := .int .u8 36, val := .func (.func 155) #[.agg #[a, b]] #[], born := 5 }, { key := .int .u8 37, val := .func (.func 156) #[.agg #[a, b]] #[], born := 6 }, { key := .int .u8 38, val := .func (.func 157) #[.agg #[a, b]] #[], born := 7 }, { key := .int .u8 39, val := .func (.func 158) #[.agg #[a, b]] #[], born := 8 }, { key := .int .u8 40, val := .func (.func 159) #[.agg #[a, b]] #[], born := 9 }, { key := .int .u8 41, val := .func (.func 160) #[.agg #[a, b]] #[], born := 10 }, { key := .int .u8 42, val := .func (.func 161) #[.agg #[a, b]] #[], born := 11 }] 12) s11
 rw [c11] at c12
 generalize hU12 : U11.putObj (w.heap.size + 1) (.map #[{ key := .int .u8 31, val := .func (.func 150) #[.agg #[a, b]] #[], born := 0 }, { key := .int .u8 32, val := .func (.func 151) #[.agg #[a, b]] #[], born := 1 }, { key := .int .u8 33, val := .func (.func 152) #[.agg #[a, b]] #[], born := 2 }, { key := .int .u8 34, val := .func (.func 153) #[.agg #[a, b]] #[], born := 3 }, { key := .int .u8 35, val := .func (.func 154) #[.agg #[a, b]] #[], born := 4 }, { key := .int .u8 36, val := .func (.func 155) #[.agg #[a, b]] #[], born := 5 }, { key := .int .u8 37, val := .func (.func 156) #[.agg #[a, b]] #[], born := 6 }, { key := .int .u8 38, val := .func (.func 157) #[.agg #[a, b]] #[], born := 7 }, { key := .int .u8 39, val := .func (.func 158) #[.agg #[a, b]] #[], born := 8 }, { key := .int .u8 40, val := .func (.func 159) #[.agg #[a, b]] #[], born := 9 }, { key := .int .u8 41, val := .func (.func 160) #[.agg #[a, b]] #[], born := 10 }, { key := .int .u8 42, val := .func (.func 161) #[.agg #[a, b]] #[], born := 11 }] 12) = U12 at *
 replace r12 : (Instr.mapUpdate 86 (.map (some (w.heap.size + 1))) (.int .u8 42) (.func (.func 161) #[.agg #[a, b]] #[])).run Tryz.prog U11 = .ok () U12 := by rw [← hU12]; exact r12
 clear hU12
 exact ⟨U1, U2, U3, U4, U5, U6, U7, U8, U9, U10, U11, U12, r1, r2, r3, r4, r5, r6, r7, r8, r9, r10, r11, r12, cc _ c1, cc _ c2, cc _ c3, cc _ c4, cc _ c5, cc _ c6, cc _ c7, cc _ c8, cc _ c9, cc _ c10, cc _ c11, h12, ((((((((((((hB).trans p1).trans p2).trans p3).trans p4).trans p5).trans p6).trans p7).trans p8).trans p9).trans p10).trans p11).trans p12⟩
set_option maxRecDepth 100000 in
set_option maxHeartbeats 6400000 in
theorem zv8 (a b : Value) (ha : a.cells = #[a]) (hb : b.cells = #[b]) (w : World) : Calls Tryz.prog 80 #[.agg #[a, b]] w fun e w' => e = .returned (.map (some (w.heap.size + 1))) ∧ FTab w' (w.heap.size + 1) a b ∧ Below w.heap.size w w' := by
 obtain ⟨V1, V2, V3, V4, V5, V6, V7, V8, V9, V10, V11, V12, e1, e2, e3, e4, e5, e6, e7, e8, e9, e10, e11, e12, ⟨x1, y1⟩, ⟨x2, y2⟩, ⟨x3, y3⟩, ⟨x4, y4⟩, ⟨x5, y5⟩, ⟨x6, y6⟩, ⟨x7, y7⟩, ⟨x8, y8⟩, ⟨x9, y9⟩, ⟨x10, y10⟩, ⟨x11, y11⟩, hF, hB⟩ := yh6 w a b
 have HF := Lib.hid hF
 have HB := Lib.hid hB
 clear hF hB
 have hmk : ∀ W : World, (Instr.makeMap 86 none).run Tryz.prog W = .ok (.map (some W.heap.size)) (W.alloc (.map #[] 0)) := fun W => rfl
 go_enter Tryz.func80, Tryz.ntmps80
 go_wp2_with fail
 go_ret
 exact ⟨rfl, HF.out, HB.out⟩
set_option maxRecDepth 100000 in
theorem zpl {W : World} {q : Nat} {a b : Value} (h : FTab W q a b) : (Instr.lookup 86 (.map (some q)) (.int .u8 31) false).run Tryz.prog W = .ok (.func (.func 150) #[.agg #[a, b]] #[]) W :=
 za7 (kt := 5) (et := 85) rfl rfl h 31 (j := 0) rfl
set_option maxRecDepth 100000 in
theorem zvw {W : World} {q : Nat} {a b : Value} (h : FTab W q a b) : (Instr.lookup 86 (.map (some q)) (.int .u8 32) false).run Tryz.prog W = .ok (.func (.func 151) #[.agg #[a, b]] #[]) W :=
 za7 (kt := 5) (et := 85) rfl rfl h 32 (j := 1) rfl
set_option maxRecDepth 100000 in
theorem zsy {W : World} {q : Nat} {a b : Value} (h : FTab W q a b) : (Instr.lookup 86 (.map (some q)) (.int .u8 33) false).run Tryz.prog W = .ok (.func (.func 152) #[.agg #[a, b]] #[]) W :=
 za7 (kt := 5) (et := 85) rfl rfl h 33 (j := 2) rfl
set_option maxRecDepth 100000 in
theorem zpk {W : World} {q : Nat} {a b : Value} (h : FTab W q a b) : (Instr.lookup 86 (.map (some q)) (.int .u8 34) false).run Tryz.prog W = .ok (.func (.func 153) #[.agg #[a, b]] #[]) W :=
 za7 (kt := 5) (et := 85) rfl rfl h 34 (j := 3) rfl
set_option maxRecDepth 100000 in
theorem zsx {W : World} {q : Nat} {a b : Value} (h : FTab W q a b) : (Instr.lookup 86 (.map (some q)) (.int .u8 35) false).run Tryz.prog W = .ok (.func (.func 154) #[.agg #[a, b]] #[]) W :=
 za7 (kt := 5) (et := 85) rfl rfl h 35 (j := 4) rfl
set_option maxRecDepth 100000 in
theorem zsz {W : World} {q : Nat} {a b : Value} (h : FTab W q a b) : (Instr.lookup 86 (.map (some q)) (.int .u8 36) false).run Tryz.prog W = .ok (.func (.func 155) #[.agg #[a, b]] #[]) W :=
 za7 (kt := 5) (et := 85) rfl rfl h 36 (j := 5) rfl
set_option maxRecDepth 100000 in
theorem zvv {W : World} {q : Nat} {a b : Value} (h : FTab W q a b) : (Instr.lookup 86 (.map (some q)) (.int .u8 37) false).run Tryz.prog W = .ok (.func (.func 156) #[.agg #[a, b]] #[]) W :=
 za7 (kt := 5) (et := 85) rfl rfl h 37 (j := 6) rfl
set_option maxRecDepth 100000 in
theorem zpm {W : World} {q : Nat} {a b : Value} (h : FTab W q a b) : (Instr.lookup 86 (.map (some q)) (.int .u8 38) false).run Tryz.prog W = .ok (.func (.func 157) #[.agg #[a, b]] #[]) W :=
 za7 (kt := 5) (et := 85) rfl rfl h 38 (j := 7) rfl
set_option maxRecDepth 100000 in
theorem zpj {W : World} {q : Nat} {a b : Value} (h : FTab W q a b) : (Instr.lookup 86 (.map (some q)) (.int .u8 39) false).run Tryz.prog W = .ok (.func (.func 158) #[.agg #[a, b]] #[]) W :=
 za7 (kt := 5) (et := 85) rfl rfl h 39 (j := 8) rfl
set_option maxRecDepth 100000 in
theorem zs0 {W : World} {q : Nat} {a b : Value} (h : FTab W q a b) : (Instr.lookup 86 (.map (some q)) (.int .u8 40) false).run Tryz.prog W = .ok (.func (.func 159) #[.agg #[a, b]] #[]) W :=
 za7 (kt := 5) (et := 85) rfl rfl h 40 (j := 9) rfl
set_option maxRecDepth 100000 in
theorem zvx {W : World} {q : Nat} {a b : Value} (h : FTab W q a b) : (Instr.lookup 86 (.map (some q)) (.int .u8 41) false).run Tryz.prog W = .ok (.func (.func 160) #[.agg #[a, b]] #[]) W :=
 za7 (kt := 5) (et := 85) rfl rfl h 41 (j := 10) rfl
set_option maxRecDepth 100000 in
theorem zsw {W : World} {q : Nat} {a b : Value} (h : FTab W q a b) : (Instr.lookup 86 (.map (some q)) (.int .u8 42) false).run Tryz.prog W = .ok (.func (.func 161) #[.agg #[a, b]] #[]) W :=
 za7 (kt := 5) (et := 85) rfl rfl h 42 (j := 11) rfl
end Go.Proofs.YtdhahiodnmmkeaaGreatDoor.Va
