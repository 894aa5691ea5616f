/- The walk of the law. -/
import Derived.Test.YtmnbplfgdgjpdaaRosB
namespace Go.Proofs.Ytmnbplfgdgjpdaa
open Go.RowKit
def noS : Nat → Bool := fun _ => false
def s1 : Nat → Bool := updS noS 1 true
def s2 : Nat → Bool := updS s1 0 true
def s3 : Nat → Bool := updS s2 1 false
def s4 : Nat → Bool := updS noS 63 true
theorem v1 : ((orL (memL s1 64)).toNat : Int) = 2 := by kernel_rfl
theorem v3 : ((orL (memL s3 64)).toNat : Int) = 1 := by kernel_rfl
theorem v4 : ((orL (memL s4 64)).toNat : Int) = 9223372036854775808 := by kernel_rfl
set_option maxHeartbeats 3200000 in
theorem rosterExamples_law (w : World) : Calls Try.prog 7 #[] w fun e w' => e = .returned (.bool true) ∧ Below w.heap.size w w' := by
  go_enter Try.func7, Try.ntmps7
  go_wp2_with fail
  refine (rnew_ok 3 (by decide) (by decide) _).mono ?_
  rintro e w1 ⟨rfl, hr, hb⟩
  have HR1 := Lib.hid (show Ros w1 w.heap.size 3 noS from hr)
  have HB1 := Lib.hid hb
  clear hr hb
  go_wp2_with fail
  refine (login_in w.heap.size 3 noS 1 (by decide) (by decide) _ HR1.out rfl).mono ?_
  rintro e w2 ⟨rfl, hr, hb⟩
  have HR2 := Lib.hid (show Ros w2 w.heap.size 3 s1 from hr)
  have HB2 := Lib.hid (HB1.out.trans (hb _ (Nat.le_refl _)))
  clear hr hb HR1 HB1
  go_wp2_with fail
  refine (login_same w.heap.size 3 s1 1 (by decide) (by decide) _ HR2.out rfl).mono ?_
  rintro e w' ⟨rfl, rfl⟩
  go_wp2_with fail
  refine (login_range w.heap.size 3 s1 3 (by decide) _ HR2.out).mono ?_
  rintro e w' ⟨rfl, rfl⟩
  go_wp2_with fail
  refine (login_range w.heap.size 3 s1 (-1) (by decide) _ HR2.out).mono ?_
  rintro e w' ⟨rfl, rfl⟩
  go_wp2_with fail
  refine (logout_same w.heap.size 3 s1 0 (by decide) (by decide) _ HR2.out rfl).mono ?_
  rintro e w' ⟨rfl, rfl⟩
  go_wp2_with fail
  refine (rin_any w.heap.size 3 s1 _ HR2.out).mono ?_
  rw [v1]
  rintro e w3 ⟨rfl, hb⟩
  have HR3 := Lib.hid (HR2.out.later hb)
  have HB3 := Lib.hid (HB2.out.trans (hb.mono HB2.out.size))
  clear hb HR2 HB2
  go_wp2_with fail
  refine (login_in w.heap.size 3 s1 0 (by decide) (by decide) _ HR3.out rfl).mono ?_
  rintro e w4 ⟨rfl, hr, hb⟩
  have HR4 := Lib.hid (show Ros w4 w.heap.size 3 s2 from hr)
  have HB4 := Lib.hid (HB3.out.trans (hb _ (Nat.le_refl _)))
  clear hr hb HR3 HB3
  go_wp2_with fail
  refine (logout_in w.heap.size 3 s2 1 (by decide) (by decide) _ HR4.out rfl).mono ?_
  rintro e w5 ⟨rfl, hr, hb⟩
  have HR5 := Lib.hid (show Ros w5 w.heap.size 3 s3 from hr)
  have HB5 := Lib.hid (HB4.out.trans (hb _ (Nat.le_refl _)))
  clear hr hb HR4 HB4
  go_wp2_with fail
  refine (rin_any w.heap.size 3 s3 _ HR5.out).mono ?_
  rw [v3]
  rintro e w6 ⟨rfl, hb⟩
  have HB6 := Lib.hid (HB5.out.trans (hb.mono HB5.out.size))
  clear hb HR5 HB5
  go_wp2_with fail
  refine (rnew_bad 0 (by decide) _).mono ?_
  rintro e w' ⟨rfl, rfl⟩
  go_wp2_with fail
  refine (rnew_bad 65 (by decide) _).mono ?_
  rintro e w' ⟨rfl, rfl⟩
  go_wp2_with fail
  refine (rnew_ok 64 (by decide) (by decide) _).mono ?_
  rintro e w7 ⟨rfl, hr, hb⟩
  have HR7 := Lib.hid (show Ros w7 w6.heap.size 64 noS from hr)
  have HB7 := Lib.hid (HB6.out.trans (hb.mono HB6.out.size))
  have hz6 := HB6.out.size
  clear hr hb HB6
  go_wp2_with fail
  refine (login_in w6.heap.size 64 noS 63 (by decide) (by decide) _ HR7.out rfl).mono ?_
  rintro e w8 ⟨rfl, hr, hb⟩
  have HR8 := Lib.hid (show Ros w8 w6.heap.size 64 s4 from hr)
  have HB8 := Lib.hid (HB7.out.trans (hb _ hz6))
  clear hr hb HR7 HB7
  go_wp2_with fail
  refine (rin_any w6.heap.size 64 s4 _ HR8.out).mono ?_
  rw [v4]
  rintro e w9 ⟨rfl, hb⟩
  have HB9 := Lib.hid (HB8.out.trans (hb.mono HB8.out.size))
  clear hb HR8 HB8
  go_wp2_with fail
  refine (login_nil 0 _).mono ?_
  rintro e w' ⟨rfl, rfl⟩
  go_wp2_with fail
  refine (logout_nil 0 _).mono ?_
  rintro e w' ⟨rfl, rfl⟩
  go_wp2_with fail
  refine (in_nil _).mono ?_
  rintro e w' ⟨rfl, rfl⟩
  go_wp2_with fail
  refine (copy_nil _).mono ?_
  rintro e w' ⟨rfl, rfl⟩
  go_wp2_with fail
  go_ret
  exact ⟨rfl, HB9.out⟩
end Go.Proofs.Ytmnbplfgdgjpdaa
