/- The contract of dec.Format. -/
import Derived.Test.YtoeodfbmiiefkaaGreatDoorTxtC
import Derived.Test.YtoeodfbmiiefkaaGreatDoorTxtD
import Derived.Test.YtoeodfbmiiefkaaGreatDoorBits
namespace Go.Proofs.YtoeodfbmiiefkaaGreatDoor.Tx
open Go.RowKit
theorem abs_eq {a : Int} (h : InI a) : sizeOf' a = (a.natAbs : Int) ∧ a.natAbs ≤ 9223372036854775808 := by unfold sizeOf' InI at *; constructor <;> (try split) <;> omega
theorem retS {a b : ByteArray} (h : a.data.toList = b.data.toList) : Ending.returned (.string a) = .returned (.string b) := by
  rw [show a = b from ByteArray.ext (Array.toList_inj.1 h)]
theorem bnext {W w1 w2 : World} (h : Below W.heap.size W w1) (k : Below w1.heap.size w1 w2) : Below W.heap.size W w2 := h.trans (k.mono h.size)
theorem balloc (w : World) (o : Obj) : Below w.heap.size w (w.alloc o) := (Below.refl _ _).alloc (Nat.le_refl _) _
theorem ba_app (a b : ByteArray) : (a ++ b).data.toList = a.data.toList ++ b.data.toList := by rw [ByteArray.data_append, Array.toList_append]
/-- Four bytes in memory. -/
def Q4 (w : World) (n : Nat) (a b c d : Int) : Prop := w.heap[n]? = some (.cells #[.int .u8 a, .int .u8 b, .int .u8 c, .int .u8 d] 192)
theorem Q4.lt {w : World} {n : Nat} {a b c d : Int} (h : Q4 w n a b c d) : n < w.heap.size := (Array.getElem?_eq_some_iff.1 h).1
theorem Q4.cells {w : World} {n : Nat} {a b c d : Int} (h : Q4 w n a b c d) : w.cell? ⟨n, 0, none⟩ = some (.int .u8 a) ∧ w.cell? ⟨n, 1, none⟩ = some (.int .u8 b) ∧ w.cell? ⟨n, 2, none⟩ = some (.int .u8 c) ∧ w.cell? ⟨n, 3, none⟩ = some (.int .u8 d) ∧
    w.frozen? ⟨n, 0, none⟩ = false ∧ w.frozen? ⟨n, 1, none⟩ = false ∧ w.frozen? ⟨n, 2, none⟩ = false ∧ w.frozen? ⟨n, 3, none⟩ = false := by
  unfold Q4 at h
  refine ⟨?_, ?_, ?_, ?_, ?_, ?_, ?_, ?_⟩ <;> simp [World.cell?, World.frozen?, h]
theorem Q4.set0 {w : World} {n : Nat} {a b c d : Int} (h : Q4 w n a b c d) (x : Int) : Q4 (w.setCell ⟨n, 0, none⟩ (.int .u8 x)) n x b c d := by
  unfold Q4 at *
  simp [World.setCell, Array.getElem?_modify, h]
theorem Q4.set1 {w : World} {n : Nat} {a b c d : Int} (h : Q4 w n a b c d) (x : Int) : Q4 (w.setCell ⟨n, 1, none⟩ (.int .u8 x)) n a x c d := by
  unfold Q4 at *
  simp [World.setCell, Array.getElem?_modify, h]
theorem Q4.set2 {w : World} {n : Nat} {a b c d : Int} (h : Q4 w n a b c d) (x : Int) : Q4 (w.setCell ⟨n, 2, none⟩ (.int .u8 x)) n a b x d := by
  unfold Q4 at *
  simp [World.setCell, Array.getElem?_modify, h]
theorem Q4.set3 {w : World} {n : Nat} {a b c d : Int} (h : Q4 w n a b c d) (x : Int) : Q4 (w.setCell ⟨n, 3, none⟩ (.int .u8 x)) n a b c x := by
  unfold Q4 at *
  simp [World.setCell, Array.getElem?_modify, h]
theorem dd_len {q : Nat} (h : q < 18446744073709551616) : (Lib.decDigits q).length ≤ 20 := dd_short 19 q (by omega)
theorem dgt_int (x : Nat) : (48 : Int) + (x : Int) % 10 = ((dgt (x % 10)).toNat : Int) := by rw [dgt_nat (by omega)]; omega
/-- The last places, as far as they are written. -/
def Pl4 (w : World) (n : Nat) (r : Nat) : Nat → Prop
  | 0 => Q4 w n 0 0 0 0
  | 1 => Q4 w n 0 0 0 ((dgt (r % 10)).toNat : Int)
  | 2 => Q4 w n 0 0 ((dgt (r / 10 % 10)).toNat : Int) ((dgt (r % 10)).toNat : Int)
  | 3 => Q4 w n 0 ((dgt (r / 100 % 10)).toNat : Int) ((dgt (r / 10 % 10)).toNat : Int) ((dgt (r % 10)).toNat : Int)
  | _ => Q4 w n ((dgt (r / 1000 % 10)).toNat : Int) ((dgt (r / 100 % 10)).toNat : Int) ((dgt (r / 10 % 10)).toNat : Int) ((dgt (r % 10)).toNat : Int)
def rs (r : Nat) : Nat → Nat
  | 0 => r
  | 1 => r / 10
  | 2 => r / 100
  | 3 => r / 1000
  | _ => r / 10000
theorem trimB_eq (l : List UInt8) : Lib.trimRightB l 48 = trimZ l := by
  rfl
set_option maxRecDepth 100000 in
set_option maxHeartbeats 1600000 in
theorem format_any (a : Int) (ha : InI a) (w : World) (hT : Pow w) :
    Calls Tryz.prog 106 #[.int .i64 a] w fun e w' => e = .returned (.string ⟨(fmtL a).toArray⟩) ∧ Below w.heap.size w w' := by
  have HA := Lib.hid ha
  have HAE := Lib.hid (abs_eq ha).1
  have hab := (abs_eq ha).2
  have HFM : Hid (fmtL a = (if a < 0 then [45] else []) ++ (Lib.decDigits (a.natAbs / 10000) ++ fracL (a.natAbs % 10000))) := rfl
  have hqb : a.natAbs / 10000 < 18446744073709551616 := by omega
  have HDL := Lib.hid (dd_len hqb)
  have HFU := Lib.hid (fun w hw => formatUint_any (a.natAbs / 10000) hqb w hw)
  have hrb : a.natAbs % 10000 < 10000 := by omega
  have hq : (a.natAbs : Int) / 10000 = ((a.natAbs / 10000 : Nat) : Int) := by omega
  have hr : (a.natAbs : Int) % 10000 = ((a.natAbs % 10000 : Nat) : Int) := by omega
  clear ha
  generalize fmtL a = FL at *
  generalize Lib.decDigits (a.natAbs / 10000) = D at *
  generalize a.natAbs / 10000 = q at *
  generalize a.natAbs % 10000 = r at *
  generalize a.natAbs = m at *
  obtain ⟨B, hB⟩ : ∃ B : ByteArray, B = ⟨D.toArray⟩ := ⟨_, rfl⟩
  have HBD : Hid (B.data.toList = D) := by unfold Hid; rw [hB]
  have hBs : B.size ≤ 20 := by rw [hB]; exact HDL.out
  rw [← hB] at HFU
  clear hB
  go_enter Tryz.func106, Tryz.ntmps106
  go_wp2_with fail
  refine (dsize_any a HA.out _).mono ?_
  rintro e w1 ⟨rfl, rfl⟩
  rw [HAE.out]
  go_wp2_with fail
  refine (HFU.out _ hT).mono ?_
  rintro e w1 ⟨rfl, hB1⟩
  have HB1 := Lib.hid hB1
  clear hB1 hq
  by_cases h : a < 0
  · skip
    rw [if_pos h] at HFM
    by_cases h0 : r = 0
    · subst h0
      go_wp2_with fail
      go_ret
      exact ⟨retS (by rw [HFM.out, ba_app, HBD.out]; simp [fracL]), HB1.out⟩
    · have HFR : Hid (fracL r = 46 :: trimZ (frD r)) := if_neg h0
      have h0' : (r : Int) ≠ 0 := by omega
      go_wp2_with fail
      have hP : Pl4 (w1.alloc (.cells #[.int .u8 0, .int .u8 0, .int .u8 0, .int .u8 0] 192)) w1.heap.size r 0 := World.alloc_heap_new w1 _
      have HB2 := Lib.hid (bnext HB1.out (balloc w1 (.cells #[.int .u8 0, .int .u8 0, .int .u8 0, .int .u8 0] 192)))
      have hws := HB1.out.size
      generalize w1.alloc (.cells #[.int .u8 0, .int .u8 0, .int .u8 0, .int .u8 0] 192) = w2 at *
      go_loopw [5, 23] (fun x i wr => ∃ j : Nat, j ≤ 4 ∧ i = .int .i64 (j : Int) ∧ x = .int .u64 ((rs r j : Nat) : Int) ∧ Hid (Pl4 wr w1.heap.size r j) ∧ Below w.heap.size w wr) (fun _ i _ => 4 - (intOf i).toNat)
      case atStart => exact ⟨0, by omega, rfl, by rw [hr]; rfl, hP, HB2.out⟩
      case round =>
        obtain ⟨j, hj, rfl, rfl, HPr, hBr⟩ := hrel
        have HBr := Lib.hid hBr
        clear hBr
        by_cases hjt : j < 4
        · obtain rfl | rfl | rfl | rfl : j = 0 ∨ j = 1 ∨ j = 2 ∨ j = 3 := by omega
          · have hQ := HPr.out
            unfold Pl4 at hQ
            unfold rs
            obtain ⟨c0, c1, c2, c3, f0, f1, f2, f3⟩ := hQ.cells
            have hl := hQ.lt
            have HQ2 := Lib.hid (hQ.set3 ((dgt (r % 10)).toNat : Int))
            have HD := Lib.hid (dgt_int (r))
            have HR : Hid (((r : Nat) : Int) / 10 = ((r / 10 : Nat) : Int)) := by unfold Hid; omega
            clear hQ HPr
            generalize hx : r = x at *
            have hxb : x < 10000 := by omega
            have HX := Lib.hid hx
            clear hx
            go_wp2_with fail
            rw [HD.out, HR.out]
            obtain rfl := HX.out
            exact ⟨⟨1, by omega, rfl, rfl, HQ2.out, HBr.out.setCell (p := ⟨w1.heap.size, 3, none⟩) hws _⟩, by simp [intOf]⟩
          · have hQ := HPr.out
            unfold Pl4 at hQ
            unfold rs
            obtain ⟨c0, c1, c2, c3, f0, f1, f2, f3⟩ := hQ.cells
            have hl := hQ.lt
            have HQ2 := Lib.hid (hQ.set2 ((dgt (r / 10 % 10)).toNat : Int))
            have HD := Lib.hid (dgt_int (r / 10))
            have HR : Hid (((r / 10 : Nat) : Int) / 10 = ((r / 100 : Nat) : Int)) := by unfold Hid; omega
            clear hQ HPr
            generalize hx : r / 10 = x at *
            have hxb : x < 10000 := by omega
            have HX := Lib.hid hx
            clear hx
            go_wp2_with fail
            rw [HD.out, HR.out]
            obtain rfl := HX.out
            exact ⟨⟨2, by omega, rfl, rfl, HQ2.out, HBr.out.setCell (p := ⟨w1.heap.size, 2, none⟩) hws _⟩, by simp [intOf]⟩
          · have hQ := HPr.out
            unfold Pl4 at hQ
            unfold rs
            obtain ⟨c0, c1, c2, c3, f0, f1, f2, f3⟩ := hQ.cells
            have hl := hQ.lt
            have HQ2 := Lib.hid (hQ.set1 ((dgt (r / 100 % 10)).toNat : Int))
            have HD := Lib.hid (dgt_int (r / 100))
            have HR : Hid (((r / 100 : Nat) : Int) / 10 = ((r / 1000 : Nat) : Int)) := by unfold Hid; omega
            clear hQ HPr
            generalize hx : r / 100 = x at *
            have hxb : x < 10000 := by omega
            have HX := Lib.hid hx
            clear hx
            go_wp2_with fail
            rw [HD.out, HR.out]
            obtain rfl := HX.out
            exact ⟨⟨3, by omega, rfl, rfl, HQ2.out, HBr.out.setCell (p := ⟨w1.heap.size, 1, none⟩) hws _⟩, by simp [intOf]⟩
          · have hQ := HPr.out
            unfold Pl4 at hQ
            unfold rs
            obtain ⟨c0, c1, c2, c3, f0, f1, f2, f3⟩ := hQ.cells
            have hl := hQ.lt
            have HQ2 := Lib.hid (hQ.set0 ((dgt (r / 1000 % 10)).toNat : Int))
            have HD := Lib.hid (dgt_int (r / 1000))
            have HR : Hid (((r / 1000 : Nat) : Int) / 10 = ((r / 10000 : Nat) : Int)) := by unfold Hid; omega
            clear hQ HPr
            generalize hx : r / 1000 = x at *
            have hxb : x < 10000 := by omega
            have HX := Lib.hid hx
            clear hx
            go_wp2_with fail
            rw [HD.out, HR.out]
            obtain rfl := HX.out
            exact ⟨⟨4, by omega, rfl, rfl, HQ2.out, HBr.out.setCell (p := ⟨w1.heap.size, 0, none⟩) hws _⟩, by simp [intOf]⟩
        · obtain rfl : j = 4 := by omega
          have hQ := HPr.out
          unfold Pl4 at hQ
          obtain ⟨c0, c1, c2, c3, f0, f1, f2, f3⟩ := hQ.cells
          have hl := hQ.lt
          have hcv : (convert 57 9 (.slice (some ⟨w1.heap.size, 0, none⟩) 4 4)).run Tryz.prog wr = .ok (.string ⟨(frD r).toArray⟩) wr := run_convert_bytes_back (P := Tryz.prog) wr 57 9 5 ⟨w1.heap.size, 0, none⟩ 4 (frD r) Tryz.underlying57 Tryz.underlying5 Tryz.underlying9 (fun j hj => by
            have hj4 : j < 4 := hj
            rw [Lib.add_plain]
            match j, hj4 with
            | 0, _ => exact c0
            | 1, _ => exact c1
            | 2, _ => exact c2
            | 3, _ => exact c3)
          clear hQ HPr
          go_wp2_with fail
          refine (Tryz.strings_TrimRight_one ⟨(frD r).toArray⟩ 48 (by decide) _ (by show 4 ≤ 9223372036854775807; omega)).mono ?_
          rintro e w3 ⟨rfl, hw3⟩
          subst w3
          rw [show (⟨(frD r).toArray⟩ : ByteArray).data.toList = frD r from rfl, trimB_eq]
          have hts := (trimZ_app (frD r)).2
          rw [frD_len] at hts
          generalize trimZ (frD r) = Z at *
          obtain ⟨E, hE⟩ : ∃ E : ByteArray, E = ⟨Z.toArray⟩ := ⟨_, rfl⟩
          have HEZ : Hid (E.data.toList = Z) := by unfold Hid; rw [hE]
          have hEs : E.size ≤ 4 := by rw [hE]; exact hts
          rw [← hE]
          clear hE hcv hts
          go_wp2_with fail
          go_ret
          exact ⟨retS (by rw [HFM.out, HFR.out, ba_app, ba_app, ba_app, HBD.out, HEZ.out]; simp), HBr.out⟩
  · skip
    rw [if_neg h] at HFM
    by_cases h0 : r = 0
    · subst h0
      go_wp2_with fail
      go_ret
      exact ⟨retS (by rw [HFM.out, HBD.out]; simp [fracL]), HB1.out⟩
    · have HFR : Hid (fracL r = 46 :: trimZ (frD r)) := if_neg h0
      have h0' : (r : Int) ≠ 0 := by omega
      go_wp2_with fail
      have hP : Pl4 (w1.alloc (.cells #[.int .u8 0, .int .u8 0, .int .u8 0, .int .u8 0] 192)) w1.heap.size r 0 := World.alloc_heap_new w1 _
      have HB2 := Lib.hid (bnext HB1.out (balloc w1 (.cells #[.int .u8 0, .int .u8 0, .int .u8 0, .int .u8 0] 192)))
      have hws := HB1.out.size
      generalize w1.alloc (.cells #[.int .u8 0, .int .u8 0, .int .u8 0, .int .u8 0] 192) = w2 at *
      go_loopw [5, 23] (fun x i wr => ∃ j : Nat, j ≤ 4 ∧ i = .int .i64 (j : Int) ∧ x = .int .u64 ((rs r j : Nat) : Int) ∧ Hid (Pl4 wr w1.heap.size r j) ∧ Below w.heap.size w wr) (fun _ i _ => 4 - (intOf i).toNat)
      case atStart => exact ⟨0, by omega, rfl, by rw [hr]; rfl, hP, HB2.out⟩
      case round =>
        obtain ⟨j, hj, rfl, rfl, HPr, hBr⟩ := hrel
        have HBr := Lib.hid hBr
        clear hBr
        by_cases hjt : j < 4
        · obtain rfl | rfl | rfl | rfl : j = 0 ∨ j = 1 ∨ j = 2 ∨ j = 3 := by omega
          · have hQ := HPr.out
            unfold Pl4 at hQ
            unfold rs
            obtain ⟨c0, c1, c2, c3, f0, f1, f2, f3⟩ := hQ.cells
            have hl := hQ.lt
            have HQ2 := Lib.hid (hQ.set3 ((dgt (r % 10)).toNat : Int))
            have HD := Lib.hid (dgt_int (r))
            have HR : Hid (((r : Nat) : Int) / 10 = ((r / 10 : Nat) : Int)) := by unfold Hid; omega
            clear hQ HPr
            generalize hx : r = x at *
            have hxb : x < 10000 := by omega
            have HX := Lib.hid hx
            clear hx
            go_wp2_with fail
            rw [HD.out, HR.out]
            obtain rfl := HX.out
            exact ⟨⟨1, by omega, rfl, rfl, HQ2.out, HBr.out.setCell (p := ⟨w1.heap.size, 3, none⟩) hws _⟩, by simp [intOf]⟩
          · have hQ := HPr.out
            unfold Pl4 at hQ
            unfold rs
            obtain ⟨c0, c1, c2, c3, f0, f1, f2, f3⟩ := hQ.cells
            have hl := hQ.lt
            have HQ2 := Lib.hid (hQ.set2 ((dgt (r / 10 % 10)).toNat : Int))
            have HD := Lib.hid (dgt_int (r / 10))
            have HR : Hid (((r / 10 : Nat) : Int) / 10 = ((r / 100 : Nat) : Int)) := by unfold Hid; omega
            clear hQ HPr
            generalize hx : r / 10 = x at *
            have hxb : x < 10000 := by omega
            have HX := Lib.hid hx
            clear hx
            go_wp2_with fail
            rw [HD.out, HR.out]
            obtain rfl := HX.out
            exact ⟨⟨2, by omega, rfl, rfl, HQ2.out, HBr.out.setCell (p := ⟨w1.heap.size, 2, none⟩) hws _⟩, by simp [intOf]⟩
          · have hQ := HPr.out
            unfold Pl4 at hQ
            unfold rs
            obtain ⟨c0, c1, c2, c3, f0, f1, f2, f3⟩ := hQ.cells
            have hl := hQ.lt
            have HQ2 := Lib.hid (hQ.set1 ((dgt (r / 100 % 10)).toNat : Int))
            have HD := Lib.hid (dgt_int (r / 100))
            have HR : Hid (((r / 100 : Nat) : Int) / 10 = ((r / 1000 : Nat) : Int)) := by unfold Hid; omega
            clear hQ HPr
            generalize hx : r / 100 = x at *
            have hxb : x < 10000 := by omega
            have HX := Lib.hid hx
            clear hx
            go_wp2_with fail
            rw [HD.out, HR.out]
            obtain rfl := HX.out
            exact ⟨⟨3, by omega, rfl, rfl, HQ2.out, HBr.out.setCell (p := ⟨w1.heap.size, 1, none⟩) hws _⟩, by simp [intOf]⟩
          · have hQ := HPr.out
            unfold Pl4 at hQ
            unfold rs
            obtain ⟨c0, c1, c2, c3, f0, f1, f2, f3⟩ := hQ.cells
            have hl := hQ.lt
            have HQ2 := Lib.hid (hQ.set0 ((dgt (r / 1000 % 10)).toNat : Int))
            have HD := Lib.hid (dgt_int (r / 1000))
            have HR : Hid (((r / 1000 : Nat) : Int) / 10 = ((r / 10000 : Nat) : Int)) := by unfold Hid; omega
            clear hQ HPr
            generalize hx : r / 1000 = x at *
            have hxb : x < 10000 := by omega
            have HX := Lib.hid hx
            clear hx
            go_wp2_with fail
            rw [HD.out, HR.out]
            obtain rfl := HX.out
            exact ⟨⟨4, by omega, rfl, rfl, HQ2.out, HBr.out.setCell (p := ⟨w1.heap.size, 0, none⟩) hws _⟩, by simp [intOf]⟩
        · obtain rfl : j = 4 := by omega
          have hQ := HPr.out
          unfold Pl4 at hQ
          obtain ⟨c0, c1, c2, c3, f0, f1, f2, f3⟩ := hQ.cells
          have hl := hQ.lt
          have hcv : (convert 57 9 (.slice (some ⟨w1.heap.size, 0, none⟩) 4 4)).run Tryz.prog wr = .ok (.string ⟨(frD r).toArray⟩) wr := run_convert_bytes_back (P := Tryz.prog) wr 57 9 5 ⟨w1.heap.size, 0, none⟩ 4 (frD r) Tryz.underlying57 Tryz.underlying5 Tryz.underlying9 (fun j hj => by
            have hj4 : j < 4 := hj
            rw [Lib.add_plain]
            match j, hj4 with
            | 0, _ => exact c0
            | 1, _ => exact c1
            | 2, _ => exact c2
            | 3, _ => exact c3)
          clear hQ HPr
          go_wp2_with fail
          refine (Tryz.strings_TrimRight_one ⟨(frD r).toArray⟩ 48 (by decide) _ (by show 4 ≤ 9223372036854775807; omega)).mono ?_
          rintro e w3 ⟨rfl, hw3⟩
          subst w3
          rw [show (⟨(frD r).toArray⟩ : ByteArray).data.toList = frD r from rfl, trimB_eq]
          have hts := (trimZ_app (frD r)).2
          rw [frD_len] at hts
          generalize trimZ (frD r) = Z at *
          obtain ⟨E, hE⟩ : ∃ E : ByteArray, E = ⟨Z.toArray⟩ := ⟨_, rfl⟩
          have HEZ : Hid (E.data.toList = Z) := by unfold Hid; rw [hE]
          have hEs : E.size ≤ 4 := by rw [hE]; exact hts
          rw [← hE]
          clear hE hcv hts
          go_wp2_with fail
          go_ret
          exact ⟨retS (by rw [HFM.out, HFR.out, ba_app, ba_app, HBD.out, HEZ.out]; simp), HBr.out⟩
end Go.Proofs.YtoeodfbmiiefkaaGreatDoor.Tx
