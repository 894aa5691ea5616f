/- The contracts of cut, Over and May. -/
import Derived.Test.YtndijajaddkbhaaOverD
namespace Go.Proofs.Ytndijajaddkbhaa.Re
open Go.RowKit AM
section
variable {P : Program} {w : World} {a : Addr} {m : Mode}
theorem run_store_func (f : Fn) (x y : Array Value) : (store a (.func f x y) m).run P w = stored P w a (.func f x y) m := run_store P w a _ m rfl
end
attribute [local go_sem] run_store_func
theorem Sd.start (w : World) (A : Option Addr) (len cap : Nat) (o : Obj) :
    Sd w A len cap ((((w.alloc o).alloc (.cells #[.slice A len cap] 22)).alloc (.cells #[.slice none 0 0] 115)).alloc
      (.cells #[.func (.func 119) #[] #[ptrV (w.heap.size + 1), ptrV (w.heap.size + 1 + 1 + 1), ptrV (w.heap.size + 1 + 1)]] 163)) (.slice none 0 0) [] := by
  have b1 := Boxed.new (w.alloc o) 22 (.slice A len cap)
  have s1 := alloc_size w o
  have l1 := below_alloc w o
  generalize w.alloc o = w1 at *
  have b2 := Boxed.new (w1.alloc (.cells #[.slice A len cap] 22)) 115 (.slice none 0 0)
  have s2 := alloc_size w1 (.cells #[.slice A len cap] 22)
  have l2 := below_alloc w1 (.cells #[.slice A len cap] 22)
  generalize w1.alloc (.cells #[.slice A len cap] 22) = w2 at *
  have s3 := alloc_size w2 (.cells #[.slice none 0 0] 115)
  have l3 := below_alloc w2 (.cells #[.slice none 0 0] 115)
  have b1 := b1.alloc (.cells #[.slice none 0 0] 115)
  generalize w2.alloc (.cells #[.slice none 0 0] 115) = w3 at *
  have b3 := Boxed.new w3 163 (.func (.func 119) #[] #[ptrV (w.heap.size + 1), ptrV (w.heap.size + 1 + 1 + 1), ptrV (w.heap.size + 1 + 1)])
  have l4 := below_alloc w3 (.cells #[.func (.func 119) #[] #[ptrV (w.heap.size + 1), ptrV (w.heap.size + 1 + 1 + 1), ptrV (w.heap.size + 1 + 1)]] 163)
  have b1 := b1.alloc (.cells #[.func (.func 119) #[] #[ptrV (w.heap.size + 1), ptrV (w.heap.size + 1 + 1 + 1), ptrV (w.heap.size + 1 + 1)]] 163)
  have b2 := b2.alloc (.cells #[.func (.func 119) #[] #[ptrV (w.heap.size + 1), ptrV (w.heap.size + 1 + 1 + 1), ptrV (w.heap.size + 1 + 1)]] 163)
  rw [s1] at b1
  rw [s2, s1] at b2
  rw [s3, s2, s1] at b3
  exact ⟨Below.next (Below.next (Below.next l1 l2) l3) l4, b1, b2, b3, OwnOf.nil _ _ _ _ _⟩
set_option maxRecDepth 100000 in
set_option maxHeartbeats 3200000 in
theorem cut_any (r1 r2 r3 r4 : Int) (a : Option Addr) (len cap : Nat) (L : List RV) (w : World) (hL : IsL w a len L) (hck : ∀ k, k < L.length → (rr4 (ruleAt L k)).ck = true) (hs : isSheet (ruleAt L 0) = true) (h0 : 0 < len) (hlen : len ≤ 64) (hr : (⟨r1, r2, r3, r4⟩ : R4).ck = true) :
    Calls Try.prog 69 #[.agg #[.int .i64 r1, .int .i64 r2, .int .i64 r3, .int .i64 r4], .slice a len cap] w fun e w' =>
      (∃ v, e = .returned v ∧ OwnP5 w.heap.size w' v (downL L (L.length - 1) ⟨r1, r2, r3, r4⟩)) ∧ Below w.heap.size w w' := by
  obtain ⟨b, off, rfl, hrow⟩ := hL.2 h0
  have HD := Lib.hid (down_any w b off len cap L hL hck hs hlen (len - 1) (by omega))
  have HL := Lib.hid hL
  have HR := Lib.hid hr
  have hLL := hL.1
  have HAM := Lib.hid (area_max hr)
  clear hck hs hrow hr hL
  go_enter Try.func69, Try.ntmps69
  go_wp2_with fail
  rw [show ((len : Int) - 1) = ((len - 1 : Nat) : Int) by omega]
  refine (HD.out r1 r2 r3 r4 [] (.slice none 0 0) _ HR.out (by have := HAM.out; simp; omega) (Sd.start w _ len cap _)).mono ?_
  rintro e w1 ⟨⟨z, rfl⟩, v, hS, hT⟩
  have d1 := hS.lbx.cell
  have hv : ∃ x y, v = .slice x (downL L (len - 1) ⟨r1, r2, r3, r4⟩).length y := by
    obtain ⟨x, y, h, _⟩ := hS.own.isOf cells5_len
    exact ⟨x, y, h⟩
  obtain ⟨x, y, rfl⟩ := hv
  have HS := Lib.hid hS
  clear hS hT
  go_wp2_with fail
  go_ret
  refine ⟨⟨_, rfl, ?_⟩, HS.out.bel⟩
  have h := HS.out.own
  rw [hLL]
  exact h
end Go.Proofs.Ytndijajaddkbhaa.Re
