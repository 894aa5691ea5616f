/- The contracts of the program's conversions. -/
import Derived.Test.YtdhahiodnmmkeaaGreatDoorValXn
import Derived.Test.YtdhahiodnmmkeaaGreatDoorMgf
import Derived.Test.YtdhahiodnmmkeaaGreatDoorTxtC
import Derived.Test.YtdhahiodnmmkeaaGreatDoorTxtE
namespace Go.Proofs.YtdhahiodnmmkeaaGreatDoor.Va
open Go Go.RowKit GM Sx
set_option linter.unusedVariables false
theorem yfm (k : Nat) (n : Int) (s : ByteArray) (hc : ∀ W, Tb W → Calls Tryz.prog 49 #[.agg #[.int .u8 (k : Int), .int .i64 n, .string s]] W fun e w' => e = .returned (.int .i64 2) ∧ Below W.heap.size W w') (w : World) (hT : Tb w) : Calls Tryz.prog 100 #[.agg #[.int .u8 (k : Int), .int .i64 n, .string s]] w fun e w' => e = .returned (.agg #[.int .u8 4, .int .i64 2, .string ⟨#[]⟩]) ∧ Below w.heap.size w w' :=
 zar (facts := []) (tab := [(49, [.agg #[(symV 0), (symV 1), (symV 2)]], .int .i64 2)]) (σ := zbj [.int .u8 (k : Int), .int .i64 n, .string s]) (zai rfl) hT (zam) (zaf (tok rfl rfl rfl rfl (fun W hW => hc W (hT.at hW))) (zal)) (args := [.agg #[(symV 0), (symV 1), (symV 2)]]) (v := .agg #[.int .u8 4, .int .i64 2, .string ⟨#[]⟩]) (by kernel_rfl) rfl rfl
theorem ycm (n : Int) (s : ByteArray) (hc : ∀ W, Tb W → Calls Tryz.prog 49 #[.agg #[.int .u8 1, .int .i64 n, .string s]] W fun e w' => e = .returned (.int .i64 0) ∧ Below W.heap.size W w') (w : World) (hT : Tb w) : Calls Tryz.prog 100 #[.agg #[.int .u8 1, .int .i64 n, .string s]] w fun e w' => e = .returned (.agg #[.int .u8 1, .int .i64 n, .string s]) ∧ Below w.heap.size w w' :=
 zar (facts := []) (tab := [(49, [.agg #[.int .u8 1, (symV 0), (symV 1)]], .int .i64 0)]) (σ := zbj [.int .i64 n, .string s]) (zai rfl) hT (zam) (zaf (tok rfl rfl rfl rfl (fun W hW => hc W (hT.at hW))) (zal)) (args := [.agg #[.int .u8 1, (symV 0), (symV 1)]]) (v := .agg #[.int .u8 1, (symV 0), (symV 1)]) (by kernel_rfl) rfl rfl
theorem ycl (n : Int) (s : ByteArray) (hc : ∀ W, Tb W → Calls Tryz.prog 49 #[.agg #[.int .u8 4, .int .i64 n, .string s]] W fun e w' => e = .returned (.int .i64 0) ∧ Below W.heap.size W w') (w : World) (hT : Tb w) : Calls Tryz.prog 100 #[.agg #[.int .u8 4, .int .i64 n, .string s]] w fun e w' => e = .returned (.agg #[.int .u8 4, .int .i64 n, .string s]) ∧ Below w.heap.size w w' :=
 zar (facts := []) (tab := [(49, [.agg #[.int .u8 4, (symV 0), (symV 1)]], .int .i64 0)]) (σ := zbj [.int .i64 n, .string s]) (zai rfl) hT (zam) (zaf (tok rfl rfl rfl rfl (fun W hW => hc W (hT.at hW))) (zal)) (args := [.agg #[.int .u8 4, (symV 0), (symV 1)]]) (v := .agg #[.int .u8 4, (symV 0), (symV 1)]) (by kernel_rfl) rfl rfl
theorem yct (k : Nat) (n : Int) (s : ByteArray) (hc : ∀ W, Tb W → Calls Tryz.prog 49 #[.agg #[.int .u8 (k : Int), .int .i64 n, .string s]] W fun e w' => e = .returned (.int .i64 2) ∧ Below W.heap.size W w') (w : World) (hT : Tb w) : Calls Tryz.prog 149 #[.agg #[.int .u8 (k : Int), .int .i64 n, .string s]] w fun e w' => e = .returned (.agg #[.int .u8 4, .int .i64 2, .string ⟨#[]⟩]) ∧ Below w.heap.size w w' :=
 zar (facts := []) (tab := [(49, [.agg #[(symV 0), (symV 1), (symV 2)]], .int .i64 2)]) (σ := zbj [.int .u8 (k : Int), .int .i64 n, .string s]) (zai rfl) hT (zam) (zaf (tok rfl rfl rfl rfl (fun W hW => hc W (hT.at hW))) (zal)) (args := [.agg #[(symV 0), (symV 1), (symV 2)]]) (v := .agg #[.int .u8 4, .int .i64 2, .string ⟨#[]⟩]) (by kernel_rfl) rfl rfl
theorem zxm (n : Int) (s : ByteArray) (hc : ∀ W, Tb W → Calls Tryz.prog 49 #[.agg #[.int .u8 3, .int .i64 n, .string s]] W fun e w' => e = .returned (.int .i64 0) ∧ Below W.heap.size W w') (w : World) (hT : Tb w) : Calls Tryz.prog 149 #[.agg #[.int .u8 3, .int .i64 n, .string s]] w fun e w' => e = .returned (.agg #[.int .u8 3, .int .i64 n, .string s]) ∧ Below w.heap.size w w' :=
 zar (facts := []) (tab := [(49, [.agg #[.int .u8 3, (symV 0), (symV 1)]], .int .i64 0)]) (σ := zbj [.int .i64 n, .string s]) (zai rfl) hT (zam) (zaf (tok rfl rfl rfl rfl (fun W hW => hc W (hT.at hW))) (zal)) (args := [.agg #[.int .u8 3, (symV 0), (symV 1)]]) (v := .agg #[.int .u8 3, (symV 0), (symV 1)]) (by kernel_rfl) rfl rfl
theorem zxl (n : Int) (s : ByteArray) (hc : ∀ W, Tb W → Calls Tryz.prog 49 #[.agg #[.int .u8 4, .int .i64 n, .string s]] W fun e w' => e = .returned (.int .i64 0) ∧ Below W.heap.size W w') (w : World) (hT : Tb w) : Calls Tryz.prog 149 #[.agg #[.int .u8 4, .int .i64 n, .string s]] w fun e w' => e = .returned (.agg #[.int .u8 4, .int .i64 n, .string s]) ∧ Below w.heap.size w w' :=
 zar (facts := []) (tab := [(49, [.agg #[.int .u8 4, (symV 0), (symV 1)]], .int .i64 0)]) (σ := zbj [.int .i64 n, .string s]) (zai rfl) hT (zam) (zaf (tok rfl rfl rfl rfl (fun W hW => hc W (hT.at hW))) (zal)) (args := [.agg #[.int .u8 4, (symV 0), (symV 1)]]) (v := .agg #[.int .u8 4, (symV 0), (symV 1)]) (by kernel_rfl) rfl rfl
theorem yfp   (w : World) (hT : Tb w) : Calls Tryz.prog 100 #[.agg #[.int .u8 0, .int .i64 0, .string ⟨#[]⟩]] w fun e w' => e = .returned (.agg #[.int .u8 1, .int .i64 0, .string ⟨#[]⟩]) ∧ Below w.heap.size w w' :=
 zar (facts := []) (tab := []) (σ := zbj []) (zai rfl) hT (zam) (zal) (args := [.agg #[.int .u8 0, .int .i64 0, .string ⟨#[]⟩]]) (v := .agg #[.int .u8 1, .int .i64 0, .string ⟨#[]⟩]) (by kernel_rfl) rfl rfl
theorem ycu   (w : World) (hT : Tb w) : Calls Tryz.prog 149 #[.agg #[.int .u8 0, .int .i64 0, .string ⟨#[]⟩]] w fun e w' => e = .returned (.agg #[.int .u8 3, .int .i64 0, .string ⟨#[]⟩]) ∧ Below w.heap.size w w' :=
 zar (facts := []) (tab := []) (σ := zbj []) (zai rfl) hT (zam) (zal) (args := [.agg #[.int .u8 0, .int .i64 0, .string ⟨#[]⟩]]) (v := .agg #[.int .u8 3, .int .i64 0, .string ⟨#[]⟩]) (by kernel_rfl) rfl rfl
theorem yfk   (w : World) (hT : Tb w) : Calls Tryz.prog 100 #[.agg #[.int .u8 2, .int .i64 1, .string ⟨#[]⟩]] w fun e w' => e = .returned (.agg #[.int .u8 1, .int .i64 10000, .string ⟨#[]⟩]) ∧ Below w.heap.size w w' :=
 zar (facts := []) (tab := []) (σ := zbj []) (zai rfl) hT (zam) (zal) (args := [.agg #[.int .u8 2, .int .i64 1, .string ⟨#[]⟩]]) (v := .agg #[.int .u8 1, .int .i64 10000, .string ⟨#[]⟩]) (by kernel_rfl) rfl rfl
theorem yck   (w : World) (hT : Tb w) : Calls Tryz.prog 149 #[.agg #[.int .u8 2, .int .i64 1, .string ⟨#[]⟩]] w fun e w' => e = .returned (.agg #[.int .u8 3, .int .i64 0, .string ⟨#[84, 82, 85, 69]⟩]) ∧ Below w.heap.size w w' :=
 zar (facts := []) (tab := []) (σ := zbj []) (zai rfl) hT (zam) (zal) (args := [.agg #[.int .u8 2, .int .i64 1, .string ⟨#[]⟩]]) (v := .agg #[.int .u8 3, .int .i64 0, .string ⟨#[84, 82, 85, 69]⟩]) (by kernel_rfl) rfl rfl
theorem yfl   (w : World) (hT : Tb w) : Calls Tryz.prog 100 #[.agg #[.int .u8 2, .int .i64 0, .string ⟨#[]⟩]] w fun e w' => e = .returned (.agg #[.int .u8 1, .int .i64 0, .string ⟨#[]⟩]) ∧ Below w.heap.size w w' :=
 zar (facts := []) (tab := []) (σ := zbj []) (zai rfl) hT (zam) (zal) (args := [.agg #[.int .u8 2, .int .i64 0, .string ⟨#[]⟩]]) (v := .agg #[.int .u8 1, .int .i64 0, .string ⟨#[]⟩]) (by kernel_rfl) rfl rfl
theorem ycs   (w : World) (hT : Tb w) : Calls Tryz.prog 149 #[.agg #[.int .u8 2, .int .i64 0, .string ⟨#[]⟩]] w fun e w' => e = .returned (.agg #[.int .u8 3, .int .i64 0, .string ⟨#[70, 65, 76, 83, 69]⟩]) ∧ Below w.heap.size w w' :=
 zar (facts := []) (tab := []) (σ := zbj []) (zai rfl) hT (zam) (zal) (args := [.agg #[.int .u8 2, .int .i64 0, .string ⟨#[]⟩]]) (v := .agg #[.int .u8 3, .int .i64 0, .string ⟨#[70, 65, 76, 83, 69]⟩]) (by kernel_rfl) rfl rfl
theorem ycq (n : Int) (fs : ByteArray) (hc : ∀ W, Tb W → Calls Tryz.prog 49 #[.agg #[.int .u8 1, .int .i64 n, .string ⟨#[]⟩]] W fun e w' => e = .returned (.int .i64 0) ∧ Below W.heap.size W w') (hf : ∀ W, Tb W → Calls Tryz.prog 172 #[.int .i64 n] W fun e w' => e = .returned (.string fs) ∧ Below W.heap.size W w') (w : World) (hT : Tb w) : Calls Tryz.prog 149 #[.agg #[.int .u8 1, .int .i64 n, .string ⟨#[]⟩]] w fun e w' => e = .returned (.agg #[.int .u8 3, .int .i64 0, .string fs]) ∧ Below w.heap.size w w' :=
 zar (facts := []) (tab := [(49, [.agg #[.int .u8 1, (symV 0), .string ⟨#[]⟩]], .int .i64 0), (172, [(symV 0)], (symV 1))]) (σ := zbj [.int .i64 n, .string fs]) (zai rfl) hT (zam) (zaf (tok rfl rfl rfl rfl (fun W hW => hc W (hT.at hW))) (zaf (tok rfl rfl rfl rfl (fun W hW => hf W (hT.at hW))) (zal))) (args := [.agg #[.int .u8 1, (symV 0), .string ⟨#[]⟩]]) (v := .agg #[.int .u8 3, .int .i64 0, (symV 1)]) (by kernel_rfl) rfl rfl
theorem ycp (s ts : ByteArray) (pv : Int) (hc : ∀ W, Tb W → Calls Tryz.prog 49 #[.agg #[.int .u8 3, .int .i64 0, .string s]] W fun e w' => e = .returned (.int .i64 0) ∧ Below W.heap.size W w') (ht : ∀ W, Tb W → Calls Tryz.prog 171 #[.string s] W fun e w' => e = .returned (.string ts) ∧ Below W.heap.size W w') (hp : ∀ W, Tb W → Calls Tryz.prog 170 #[.string ts] W fun e w' => e = .returned (.tuple #[.int .i64 pv, .int .i64 0]) ∧ Below W.heap.size W w') (hb : -9223372036854775807 ≤ pv) (w : World) (hT : Tb w) : Calls Tryz.prog 100 #[.agg #[.int .u8 3, .int .i64 0, .string s]] w fun e w' => e = .returned (.agg #[.int .u8 1, .int .i64 pv, .string ⟨#[]⟩]) ∧ Below w.heap.size w w' :=
 zar (facts := [⟨zyx .eql 2, [(symV 2), .int .i64 (-9223372036854775808)], .bool false, false⟩]) (tab := [(49, [.agg #[.int .u8 3, .int .i64 0, (symV 0)]], .int .i64 0), (171, [(symV 0)], (symV 1)), (170, [(symV 1)], .tuple #[(symV 2), .int .i64 0])]) (σ := zbj [.string s, .string ts, .int .i64 pv]) (zai rfl) hT (zn4 (zwc rfl rfl rfl (by simp [cmpI]; omega)) (zam)) (zaf (tok rfl rfl rfl rfl (fun W hW => hc W (hT.at hW))) (zaf (tok rfl rfl rfl rfl (fun W hW => ht W (hT.at hW))) (zaf (tok rfl rfl rfl rfl (fun W hW => hp W (hT.at hW))) (zal)))) (args := [.agg #[.int .u8 3, .int .i64 0, (symV 0)]]) (v := .agg #[.int .u8 1, (symV 2), .string ⟨#[]⟩]) (by kernel_rfl) rfl rfl
theorem yco (s ts : ByteArray) (pv : Int) (hc : ∀ W, Tb W → Calls Tryz.prog 49 #[.agg #[.int .u8 3, .int .i64 0, .string s]] W fun e w' => e = .returned (.int .i64 0) ∧ Below W.heap.size W w') (ht : ∀ W, Tb W → Calls Tryz.prog 171 #[.string s] W fun e w' => e = .returned (.string ts) ∧ Below W.heap.size W w') (hp : ∀ W, Tb W → Calls Tryz.prog 170 #[.string ts] W fun e w' => e = .returned (.tuple #[.int .i64 pv, .int .i64 3]) ∧ Below W.heap.size W w') (w : World) (hT : Tb w) : Calls Tryz.prog 100 #[.agg #[.int .u8 3, .int .i64 0, .string s]] w fun e w' => e = .returned (.agg #[.int .u8 4, .int .i64 3, .string ⟨#[]⟩]) ∧ Below w.heap.size w w' :=
 zar (facts := []) (tab := [(49, [.agg #[.int .u8 3, .int .i64 0, (symV 0)]], .int .i64 0), (171, [(symV 0)], (symV 1)), (170, [(symV 1)], .tuple #[(symV 2), .int .i64 3])]) (σ := zbj [.string s, .string ts, .int .i64 pv]) (zai rfl) hT (zam) (zaf (tok rfl rfl rfl rfl (fun W hW => hc W (hT.at hW))) (zaf (tok rfl rfl rfl rfl (fun W hW => ht W (hT.at hW))) (zaf (tok rfl rfl rfl rfl (fun W hW => hp W (hT.at hW))) (zal)))) (args := [.agg #[.int .u8 3, .int .i64 0, (symV 0)]]) (v := .agg #[.int .u8 4, .int .i64 3, .string ⟨#[]⟩]) (by kernel_rfl) rfl rfl
theorem ycn (s ts : ByteArray) (pv : Int) (hc : ∀ W, Tb W → Calls Tryz.prog 49 #[.agg #[.int .u8 3, .int .i64 0, .string s]] W fun e w' => e = .returned (.int .i64 0) ∧ Below W.heap.size W w') (ht : ∀ W, Tb W → Calls Tryz.prog 171 #[.string s] W fun e w' => e = .returned (.string ts) ∧ Below W.heap.size W w') (hp : ∀ W, Tb W → Calls Tryz.prog 170 #[.string ts] W fun e w' => e = .returned (.tuple #[.int .i64 pv, .int .i64 4]) ∧ Below W.heap.size W w') (w : World) (hT : Tb w) : Calls Tryz.prog 100 #[.agg #[.int .u8 3, .int .i64 0, .string s]] w fun e w' => e = .returned (.agg #[.int .u8 4, .int .i64 2, .string ⟨#[]⟩]) ∧ Below w.heap.size w w' :=
 zar (facts := []) (tab := [(49, [.agg #[.int .u8 3, .int .i64 0, (symV 0)]], .int .i64 0), (171, [(symV 0)], (symV 1)), (170, [(symV 1)], .tuple #[(symV 2), .int .i64 4])]) (σ := zbj [.string s, .string ts, .int .i64 pv]) (zai rfl) hT (zam) (zaf (tok rfl rfl rfl rfl (fun W hW => hc W (hT.at hW))) (zaf (tok rfl rfl rfl rfl (fun W hW => ht W (hT.at hW))) (zaf (tok rfl rfl rfl rfl (fun W hW => hp W (hT.at hW))) (zal)))) (args := [.agg #[.int .u8 3, .int .i64 0, (symV 0)]]) (v := .agg #[.int .u8 4, .int .i64 2, .string ⟨#[]⟩]) (by kernel_rfl) rfl rfl
theorem zow (k : Nat) (n : Int) (s : ByteArray) (hs : s.size ≤ 2000) (hi : InI n) (w : World) (hT : Tb w) : Calls Tryz.prog 100 #[.agg #[.int .u8 (k : Int), .int .i64 n, .string s]] w fun e w' => e = .returned (.agg #[.int .u8 ((cvR 1 k n s).1 : Int), .int .i64 (cvR 1 k n s).2.1, .string (cvR 1 k n s).2.2]) ∧ Below w.heap.size w w' := by
 have hck := fun W (_ : Tb W) => zex k n s (zeo hs) hi.1 W
 by_cases h0 : vE k n s.data.toList = 0
 · rw [h0] at hck
   by_cases hk : k = 1 ∨ k = 4
   · rw [zmy h0 hk]
     rcases hk with rfl | rfl
     · exact ycm n s hck w hT
     · exact ycl n s hck w hT
   have e : cvR 1 k n s = ((nbR k n s).1, (nbR k n s).2, ⟨#[]⟩) := by unfold cvR; rw [if_pos h0, if_neg hk, if_pos rfl]
   rw [e]
   rcases zh3 h0 with ⟨rfl, rfl, rfl⟩ | ⟨rfl, _, rfl⟩ | ⟨rfl, g, rfl⟩ | ⟨rfl, rfl⟩ | ⟨rfl, _, _⟩
   · exact yfp w hT
   · omega
   · rcases g with rfl | rfl
     · exact yfl w hT
     · exact yfk w hT
   · have ht := fun W (_ : Tb W) => zqo s (by omega) W
     have htl : (str (trim s.data.toList)).size ≤ 2000 := by rw [zly]; have := zt6 s.data.toList; have : s.data.toList.length = s.size := za2 s; omega
     have hp := fun W (_ : Tb W) => Tx.parse_any (str (trim s.data.toList)) htl W
     have hd : (str (trim s.data.toList)).data.toList = trim s.data.toList := by unfold str; rfl
     rw [hd] at hp
     have hpe : Tx.parE (trim s.data.toList) = 0 ∨ Tx.parE (trim s.data.toList) = 3 ∨ Tx.parE (trim s.data.toList) = 4 := by
      unfold Tx.parE
      split
      · exact .inr (.inr rfl)
      · split
        · exact .inl rfl
        · exact .inr (.inl rfl)
     rcases hpe with he | he | he
     · rw [he] at hp
       have hb := Tx.par_bd he
       have e2 : nbR 3 0 s = (1, Tx.parV (trim s.data.toList)) := by
        unfold nbR mkK mkN
        rw [if_pos rfl, if_pos he, if_neg (by unfold Tx.mostI at hb; unfold zau; omega), if_neg (by unfold Tx.mostI at hb; unfold zau; omega)]
       rw [e2]
       exact ycp s _ _ hck ht hp (by unfold Tx.mostI at hb; omega) w hT
     · rw [he] at hp
       have e2 : nbR 3 0 s = (4, 3) := by unfold nbR; rw [if_pos rfl, if_neg (by omega), if_pos he]
       rw [e2]
       exact yco s _ _ hck ht hp w hT
     · rw [he] at hp
       have e2 : nbR 3 0 s = (4, 2) := by unfold nbR; rw [if_pos rfl, if_neg (by omega), if_neg (by omega)]
       rw [e2]
       exact ycn s _ _ hck ht hp w hT
   · omega
 · rw [zql _ _ _ h0] at hck
   have e : cvR 1 k n s = (4, 2, ⟨#[]⟩) := by unfold cvR; rw [if_neg h0]
   rw [e]
   exact yfm k n s hck w hT
theorem zqj (k : Nat) (n : Int) (s : ByteArray) (hs : s.size ≤ 2000) (hi : InI n) (w : World) (hT : Tb w) : Calls Tryz.prog 149 #[.agg #[.int .u8 (k : Int), .int .i64 n, .string s]] w fun e w' => e = .returned (.agg #[.int .u8 ((cvR 3 k n s).1 : Int), .int .i64 (cvR 3 k n s).2.1, .string (cvR 3 k n s).2.2]) ∧ Below w.heap.size w w' := by
 have hck := fun W (_ : Tb W) => zex k n s (zeo hs) hi.1 W
 by_cases h0 : vE k n s.data.toList = 0
 · rw [h0] at hck
   by_cases hk : k = 3 ∨ k = 4
   · rw [zmy h0 hk]
     rcases hk with rfl | rfl
     · exact zxm n s hck w hT
     · exact zxl n s hck w hT
   rcases zh3 h0 with ⟨rfl, rfl, rfl⟩ | ⟨rfl, g, rfl⟩ | ⟨rfl, g, rfl⟩ | ⟨rfl, rfl⟩ | ⟨rfl, _, _⟩
   · have e : cvR 3 0 0 ⟨#[]⟩ = (3, 0, ⟨#[]⟩) := by decide
     rw [e]
     exact ycu w hT
   · rw [zwq g]
     exact ycq n _ hck (fun W h => Tx.format_any n hi W h.pow) w hT
   · rcases g with rfl | rfl
     · rw [zof]; exact ycs w hT
     · rw [zry]; exact yck w hT
   · omega
   · omega
 · rw [zql _ _ _ h0] at hck
   have e : cvR 3 k n s = (4, 2, ⟨#[]⟩) := by unfold cvR; rw [if_neg h0]
   rw [e]
   exact yct k n s hck w hT
end Go.Proofs.YtdhahiodnmmkeaaGreatDoor.Va
