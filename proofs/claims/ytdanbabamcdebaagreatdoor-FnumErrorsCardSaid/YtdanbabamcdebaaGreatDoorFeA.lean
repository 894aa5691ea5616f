/- What the runs of the law FnumErrors share. -/
import Derived.Test.YtdanbabamcdebaaGreatDoorLawFnumOrder
namespace Go.Proofs.YtdanbabamcdebaaGreatDoor.Va
open Go Go.RowKit GM Sx
set_option linter.unusedVariables false
theorem eqv_b {k n : Int} {s : ByteArray} {k' n' : Int} {s' : ByteArray} {b : Bool} (h : decide (k = k' ∧ n = n' ∧ s = s') = b) (u v : Operand) (W : World) :
    (do eqGuard .eql 23 u v (.agg #[.int .u8 k, .int .i64 n, .string s]) (.agg #[.int .u8 k', .int .i64 n', .string s']); binOp .eql 23 (.agg #[.int .u8 k, .int .i64 n, .string s]) (.agg #[.int .u8 k', .int .i64 n', .string s']) : Sem Value).run Tryz.prog W = .ok (.bool b) W :=
  ((eqv_run .eql u v k n s k' n' s' W).1 rfl).trans (by rw [h])
theorem eqv_n {k n : Int} {s : ByteArray} {k' n' : Int} {s' : ByteArray} {b : Bool} (h : decide (k = k' ∧ n = n' ∧ s = s') = !b) (u v : Operand) (W : World) :
    (do eqGuard .neq 23 u v (.agg #[.int .u8 k, .int .i64 n, .string s]) (.agg #[.int .u8 k', .int .i64 n', .string s']); binOp .neq 23 (.agg #[.int .u8 k, .int .i64 n, .string s]) (.agg #[.int .u8 k', .int .i64 n', .string s']) : Sem Value).run Tryz.prog W = .ok (.bool b) W :=
  ((eqv_run .neq u v k n s k' n' s' W).2 rfl).trans (by rw [h, Bool.not_not])
abbrev y (i : Nat) : Value := symV i
abbrev Yes (w : World) : Ending → World → Prop := fun e w' => e = .returned (.bool true) ∧ Below w.heap.size w w'
theorem up {w : World} (hT : Tb w) {f : FuncId} {a : Array Value} {v : Value} (h : Rt f a v) : ∀ W : World, (∀ n ∈ nmNeed, n < w.heap.size → W.heap[n]? = w.heap[n]?) → Calls Tryz.prog f a W fun e w' => e = .returned v ∧ Below W.heap.size W w' := fun W hW => h W (hT.at hW)
theorem foks_app {σ : Nat → Value} {wd : World → Prop} {l1 l2 : List OFact} (h1 : ∀ F ∈ l1, FOk Tryz.prog σ wd F) (h2 : ∀ F ∈ l2, FOk Tryz.prog σ wd F) : ∀ F ∈ l1 ++ l2, FOk Tryz.prog σ wd F := fun F hF => by
  rcases List.mem_append.1 hF with h | h
  · exact h1 F h
  · exact h2 F h
theorem toks_app {σ : Nat → Value} {wd : World → Prop} {l1 l2 : List (FuncId × List Value × Value)} (h1 : ∀ F ∈ l1, TOk Tryz.prog σ wd F) (h2 : ∀ F ∈ l2, TOk Tryz.prog σ wd F) : ∀ F ∈ l1 ++ l2, TOk Tryz.prog σ wd F := fun F hF => by
  rcases List.mem_append.1 hF with h | h
  · exact h1 F h
  · exact h2 F h
structure Dt where
  x0 : Nat
  y0 : Int
  z0 : ByteArray
  x1 : Nat
  y1 : Int
  z1 : ByteArray
  fn : Nat
  op : Int
  ka : Nat
  na : Int
  sa : ByteArray
  kb : Nat
  nb : Int
  sb : ByteArray
  kn : Nat
  nn : Int
  sn : ByteArray
  kp : Nat
  np : Int
  sp : ByteArray
  kv : Nat
  nv : Int
  sv : ByteArray
  nx : Int
  sx : ByteArray
  nt : Int
  st : ByteArray
  r : Int
  ok : Bool
  kw : Nat
  nw : Int
  sw : ByteArray
  ny : Int
  sy : ByteArray
  pl : Int
structure Gs (d : Dt) : Prop where
  ga : Rt 21 #[.agg #[(.int .u8 (d.x0 : Int)), (.int .i64 d.y0), (.string d.z0)]] (.agg #[(.int .u8 (d.ka : Int)), (.int .i64 d.na), (.string d.sa)])
  gb : Rt 21 #[.agg #[(.int .u8 (d.x1 : Int)), (.int .i64 d.y1), (.string d.z1)]] (.agg #[(.int .u8 (d.kb : Int)), (.int .i64 d.nb), (.string d.sb)])
  ca : Rt 22 #[.agg #[(.int .u8 (d.ka : Int)), (.int .i64 d.na), (.string d.sa)]] (.int .i64 0)
  cb : Rt 22 #[.agg #[(.int .u8 (d.kb : Int)), (.int .i64 d.nb), (.string d.sb)]] (.int .i64 0)
  gn : Rt 16 #[.agg #[(.int .u8 (d.ka : Int)), (.int .i64 d.na), (.string d.sa)]] (.agg #[(.int .u8 (d.kn : Int)), (.int .i64 d.nn), (.string d.sn)])
  cn : Rt 22 #[.agg #[(.int .u8 (d.kn : Int)), (.int .i64 d.nn), (.string d.sn)]] (.int .i64 0)
  gp : Rt 18 #[.agg #[(.int .u8 (d.ka : Int)), (.int .i64 d.na), (.string d.sa)]] (.agg #[(.int .u8 (d.kp : Int)), (.int .i64 d.np), (.string d.sp)])
  cp : Rt 22 #[.agg #[(.int .u8 (d.kp : Int)), (.int .i64 d.np), (.string d.sp)]] (.int .i64 0)
  o5 : -12 < d.op.tmod 12 ∧ d.op.tmod 12 < 12
  o6 : 0 ≤ (d.op.tmod 12 + 12).tmod 12 ∧ (d.op.tmod 12 + 12).tmod 12 < 12
abbrev SB (d : Dt) : List Value := [.int .u8 (d.x0 : Int), .int .i64 d.y0, .string d.z0, .int .u8 (d.x1 : Int), .int .i64 d.y1, .string d.z1, .int .u8 (d.fn : Int), .int .i64 d.op, .int .u8 (d.ka : Int), .int .i64 d.na, .string d.sa, .int .u8 (d.kb : Int), .int .i64 d.nb, .string d.sb, .int .i64 (d.op.tmod 12), .int .i64 (d.op.tmod 12 + 12), .int .i64 ((d.op.tmod 12 + 12).tmod 12), .int .i64 (1 + (d.op.tmod 12 + 12).tmod 12), .int .i64 0, .int .i64 0, .int .u8 (d.kn : Int), .int .i64 d.nn, .string d.sn, .int .u8 (d.kp : Int), .int .i64 d.np, .string d.sp, .int .u8 (d.kv : Int), .int .i64 d.nv, .string d.sv, .int .i64 d.nx, .string d.sx, .int .i64 d.nt, .string d.st, .int .i64 d.r, .bool d.ok, .int .u8 (d.kw : Int), .int .i64 d.nw, .string d.sw, .int .i64 d.ny, .string d.sy, .int .i64 (d.ny.tdiv 10000), .int .i64 (if (-20 : Int) > d.ny.tdiv 10000 then -20 else d.ny.tdiv 10000), .int .i64 d.pl]
noncomputable abbrev FB : List OFact := [⟨isBin .rem 2, [(y 7), .int .i64 12], (y 14), false⟩, ⟨isBin .add 2, [(y 14), .int .i64 12], (y 15), false⟩, ⟨isBin .rem 2, [(y 15), .int .i64 12], (y 16), false⟩, ⟨isBin .add 2, [.int .i64 1, (y 16)], (y 17), false⟩, ⟨isBin .neq 23, [.agg #[(y 8), (y 9), (y 10)], .agg #[(y 8), (y 9), (y 10)]], .bool false, false⟩, ⟨isBin .eql 23, [.agg #[(y 8), (y 9), (y 10)], .agg #[(y 8), (y 9), (y 10)]], .bool true, false⟩, ⟨isBin .neq 23, [.agg #[(y 11), (y 12), (y 13)], .agg #[(y 11), (y 12), (y 13)]], .bool false, false⟩, ⟨isBin .eql 23, [.agg #[(y 11), (y 12), (y 13)], .agg #[(y 11), (y 12), (y 13)]], .bool true, false⟩]
abbrev TB : List (FuncId × List Value × Value) := [(13, [], .bool true), (21, [.agg #[(y 0), (y 1), (y 2)]], .agg #[(y 8), (y 9), (y 10)]), (21, [.agg #[(y 3), (y 4), (y 5)]], .agg #[(y 11), (y 12), (y 13)]), (22, [.agg #[(y 8), (y 9), (y 10)]], .int .i64 0), (22, [.agg #[(y 11), (y 12), (y 13)]], .int .i64 0), (16, [.agg #[(y 8), (y 9), (y 10)]], .agg #[(y 20), (y 21), (y 22)]), (22, [.agg #[(y 20), (y 21), (y 22)]], .int .i64 0), (18, [.agg #[(y 8), (y 9), (y 10)]], .agg #[(y 23), (y 24), (y 25)]), (22, [.agg #[(y 23), (y 24), (y 25)]], .int .i64 0)]
theorem fb_ok {d : Dt} (G : Gs d) (wd : World → Prop) : ∀ F ∈ FB, FOk Tryz.prog (symOf (SB d)) wd F :=
  foks_cons (fok_div rfl rfl rfl rfl rfl (by decide) (.inl ⟨rfl, rfl⟩)) (foks_cons (fok_arith rfl rfl rfl rfl rfl (.inl ⟨rfl, wrap64 (by have := G.o5; have := G.o6; omega) (by have := G.o5; have := G.o6; omega)⟩)) (foks_cons (fok_div rfl rfl rfl rfl rfl (by decide) (.inl ⟨rfl, rfl⟩)) (foks_cons (fok_arith rfl rfl rfl rfl rfl (.inl ⟨rfl, wrap64 (by have := G.o5; have := G.o6; omega) (by have := G.o5; have := G.o6; omega)⟩)) (foks_cons (fok_bin (a := .agg #[(.int .u8 (d.ka : Int)), (.int .i64 d.na), (.string d.sa)]) (b := .agg #[(.int .u8 (d.ka : Int)), (.int .i64 d.na), (.string d.sa)]) (c := .bool false) rfl rfl rfl rfl rfl (fun u v W => eqv_n (by simp) u v W)) (foks_cons (fok_bin (a := .agg #[(.int .u8 (d.ka : Int)), (.int .i64 d.na), (.string d.sa)]) (b := .agg #[(.int .u8 (d.ka : Int)), (.int .i64 d.na), (.string d.sa)]) (c := .bool true) rfl rfl rfl rfl rfl (fun u v W => eqv_b (by simp) u v W)) (foks_cons (fok_bin (a := .agg #[(.int .u8 (d.kb : Int)), (.int .i64 d.nb), (.string d.sb)]) (b := .agg #[(.int .u8 (d.kb : Int)), (.int .i64 d.nb), (.string d.sb)]) (c := .bool false) rfl rfl rfl rfl rfl (fun u v W => eqv_n (by simp) u v W)) (foks_cons (fok_bin (a := .agg #[(.int .u8 (d.kb : Int)), (.int .i64 d.nb), (.string d.sb)]) (b := .agg #[(.int .u8 (d.kb : Int)), (.int .i64 d.nb), (.string d.sb)]) (c := .bool true) rfl rfl rfl rfl rfl (fun u v W => eqv_b (by simp) u v W)) (foks_nil))))))))
theorem tb_ok {d : Dt} (G : Gs d) {w : World} (hT : Tb w) : ∀ F ∈ TB, TOk Tryz.prog (symOf (SB d)) (fun W => ∀ n ∈ nmNeed, n < w.heap.size → W.heap[n]? = w.heap[n]?) F :=
  toks_cons (tok rfl rfl rfl rfl (up hT awake13)) (toks_cons (tok rfl rfl rfl rfl (up hT G.ga)) (toks_cons (tok rfl rfl rfl rfl (up hT G.gb)) (toks_cons (tok rfl rfl rfl rfl (up hT G.ca)) (toks_cons (tok rfl rfl rfl rfl (up hT G.cb)) (toks_cons (tok rfl rfl rfl rfl (up hT G.gn)) (toks_cons (tok rfl rfl rfl rfl (up hT G.cn)) (toks_cons (tok rfl rfl rfl rfl (up hT G.gp)) (toks_cons (tok rfl rfl rfl rfl (up hT G.cp)) (toks_nil)))))))))
end Go.Proofs.YtdanbabamcdebaaGreatDoor.Va
