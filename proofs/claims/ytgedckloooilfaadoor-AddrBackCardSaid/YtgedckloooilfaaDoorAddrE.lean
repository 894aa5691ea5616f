/- The contract of the law's capitals. -/
import Derived.Test.YtgedckloooilfaaDoorAddrC
import Derived.Test.YtgedckloooilfaaDoorAddrMathC
import Derived.Lib.ConvBytes
import Derived.Lib.AtoiErrMem
namespace Go.Proofs.YtgedckloooilfaaDoor
open Go.RowKit AM
/-- The byte j behind k rounds. -/
def capAt (s : ByteArray) (k j : Nat) : Int := if j < k then capI ((s.data.toList.getD j 0).toNat : Int) else ((s.data.toList.getD j 0).toNat : Int)
/-- The row of bytes of which the first k are capitals. -/
def CapRow (w : World) (b : Nat) (s : ByteArray) (k : Nat) : Prop :=
  b < w.heap.size ∧ (∀ j, j < s.size → w.cell? ⟨b, j, none⟩ = some (.int .u8 (capAt s k j))) ∧ (∀ j, j < s.size → w.frozen? ⟨b, j, none⟩ = false)
theorem bytes_unfrozen (w : World) (e : TypeId) (s : ByteArray) (j : Nat) (hj : j < s.size) : (Lib.bytesWorld w e s).frozen? ⟨w.heap.size, j, none⟩ = false := by
  simp only [World.frozen?, Lib.bytesWorld_at_new]
  simp [Lib.bytesCells]
  omega
theorem CapRow.start (w : World) (e : TypeId) (s : ByteArray) : CapRow (Lib.bytesWorld w e s) w.heap.size s 0 :=
  ⟨by rw [Lib.bytesWorld_size]; omega, fun j hj => by rw [Lib.bytesWorld_cell w e s j hj]; rfl, fun j hj => bytes_unfrozen w e s j hj⟩
theorem CapRow.same {w : World} {b : Nat} {s : ByteArray} {k : Nat} (h : CapRow w b s k) (hk : k < s.size) (hc : capI ((s.data.toList.getD k 0).toNat : Int) = ((s.data.toList.getD k 0).toNat : Int)) : CapRow w b s (k + 1) := by
  refine ⟨h.1, fun j hj => ?_, h.2.2⟩
  rw [h.2.1 j hj]
  unfold capAt
  by_cases e : j = k
  · subst e; rw [if_neg (Nat.lt_irrefl _), if_pos (Nat.lt_succ_self _), hc]
  · by_cases h1 : j < k
    · rw [if_pos h1, if_pos (by omega)]
    · rw [if_neg h1, if_neg (by omega)]
theorem CapRow.put {w : World} {b : Nat} {s : ByteArray} {k : Nat} (h : CapRow w b s k) (hk : k < s.size) (v : Int) (hv : capI ((s.data.toList.getD k 0).toNat : Int) = v) : CapRow (w.setCell ⟨b, k, none⟩ (.int .u8 v)) b s (k + 1) := by
  refine ⟨by simpa using h.1, fun j hj => ?_, fun j hj => by simpa using h.2.2 j hj⟩
  by_cases e : j = k
  · subst e
    rw [World.cell?_setCell_same _ _ _ (h.2.1 j hj)]
    unfold capAt; rw [if_pos (Nat.lt_succ_self _), hv]
  · rw [World.cell?_setCell_other _ _ _ _ (by simp), h.2.1 j hj]
    unfold capAt
    by_cases h1 : j < k
    · rw [if_pos h1, if_pos (by omega)]
    · rw [if_neg h1, if_neg (by omega)]
theorem capsN_get (s : ByteArray) (i : Nat) (h : i < s.size) : (capsN s.data.toList).getD i 0 = capAt s s.size i := by
  unfold capAt capsN; rw [if_pos h]
  simp [List.getD, h]
theorem get_getD (s : ByteArray) (k : Nat) (h : k < s.size) : s.data.toList.getD k 0 = s[k]'h := by
  rw [List.getD_eq_getElem?_getD, List.getElem?_eq_getElem (by simpa using h), Option.getD_some]; rfl
set_option maxRecDepth 100000 in
set_option maxHeartbeats 1600000 in
theorem capitals_any (s : ByteArray) (hs : s.size ≤ 2000) (w : World) :
    Calls Tryd.prog 50 #[.string s] w fun e w' => e = .returned (.string (strOfNums (capsN s.data.toList))) ∧ Below w.heap.size w w' := by
  have hconv := fun W : World => Lib.run_convert_string_bytes (P := Tryd.prog) W 9 91 5 s Tryd.underlying9 Tryd.underlying91 Tryd.underlying5
  go_enter Tryd.func50, Tryd.ntmps50
  go_wp2_with fail
  clear hconv
  have hS := CapRow.start w 5 s
  have hB0 := Lib.bytesWorld_below w 5 s
  generalize Lib.bytesWorld w 5 s = W0 at *
  go_loopw [4] (fun i wr => ∃ k : Nat, k ≤ s.size ∧ i = .int .i64 k ∧ CapRow wr w.heap.size s k ∧ Below w.heap.size w wr) (fun i _ => s.size - (intOf i).toNat)
  case atStart => exact ⟨0, Nat.zero_le _, rfl, hS, hB0⟩
  case round =>
    obtain ⟨k, hk, rfl, hR, hB⟩ := hrel
    have HR := Lib.hid hR
    have HB := Lib.hid hB
    clear hR hB hS hB0
    by_cases hlt : k < s.size
    · have hcell := HR.out.2.1 k hlt
      have hfr := HR.out.2.2 k hlt
      unfold capAt at hcell
      rw [if_neg (Nat.lt_irrefl _)] at hcell
      have HSa := Lib.hid (HR.out.same hlt)
      have HPu := Lib.hid (fun v => HR.out.put hlt v)
      have hc0 : 0 ≤ ((s.data.toList.getD k 0).toNat : Int) := by omega
      have hc1 : ((s.data.toList.getD k 0).toNat : Int) ≤ 255 := by have := (s.data.toList.getD k 0).toNat_lt; omega
      generalize ((s.data.toList.getD k 0).toNat : Int) = c at *
      rcases Int.lt_or_le c 97 with h1 | h1
      · have HC : Hid (capI c = c) := by unfold Hid capI; rw [if_neg (by omega)]
        go_wp2_with fail
        go_roundw
        case rel => exact ⟨k + 1, by omega, by go_num, HSa.out HC.out, HB.out⟩
        case measure => simp [intOf]; omega
      · rcases Int.lt_or_le 122 c with h2 | h2
        · have HC : Hid (capI c = c) := by unfold Hid capI; rw [if_neg (by omega)]
          go_wp2_with fail
          go_roundw
          case rel => exact ⟨k + 1, by omega, by go_num, HSa.out HC.out, HB.out⟩
          case measure => simp [intOf]; omega
        · have HC : Hid (capI c = c - 32) := by unfold Hid capI; rw [if_pos ⟨h1, h2⟩]
          go_wp2_with fail
          go_roundw
          case rel => exact ⟨k + 1, by omega, by go_num, HPu.out _ HC.out, HB.out.setCell (Nat.le_refl _) _⟩
          case measure => simp [intOf]; omega
    · obtain rfl : k = s.size := by omega
      go_wp2_with fail
      rw [run_convert_bytes_arg (P := Tryd.prog) _ 91 5 Tryd.underlying91 Tryd.underlying5 w.heap.size 0 s.size _ (capsN s.data.toList) (by simp [capsN]) ?hc 9 Tryd.underlying9]
      case hc => intro i hi; rw [Nat.zero_add, HR.out.2.1 i hi, capsN_get s i hi]
      go_wp2_with fail
      go_ret
      exact ⟨rfl, HB.out⟩
end Go.Proofs.YtgedckloooilfaaDoor
