/- Contracts of Quote: the program's and the specification's. -/
import Derived.Test.YtelanmknimapoaaGreatDoorMge
import Derived.Test.YtelanmknimapoaaGreatDoorShelfGlyph
namespace Go.Proofs.YtelanmknimapoaaGreatDoor.Gl
open Go.RowKit GM
/-- The library's bound on a needle holds some number. -/
def ML (w : World) : Prop := 2 < w.heap.size ∧ ∃ m : Int, w.cell? ⟨2, 0, none⟩ = some (.int .i64 m)
theorem ML.later {w w' : World} (h : ML w) (hB : Below w.heap.size w w') : ML w' := by
  obtain ⟨h1, m, h2⟩ := h
  refine ⟨Nat.lt_of_lt_of_le h1 hB.size, m, ?_⟩
  rw [(bcell hB).1 _ _ h1]; exact h2
def quoS (l : List UInt8) : List UInt8 := if chk l = 0 then 34 :: (quo l ++ [34]) else []
theorem quoS_yes {l : List UInt8} (h : chk l = 0) : quoS l = 34 :: (quo l ++ [34]) := by unfold quoS; rw [if_pos h]
theorem quoS_no {l : List UInt8} (h : ¬ chk l = 0) : quoS l = [] := by unfold quoS; rw [if_neg h]
theorem chk_z {l : List UInt8} (h : chk l = 0) : l.length ≤ 256 := by
  unfold chk at h
  split at h
  · cases h
  · omega
theorem rep_str (s : ByteArray) : (⟨(Lib.replaceAll s.data.toList (⟨#[34]⟩ : ByteArray).data.toList (⟨#[34, 34]⟩ : ByteArray).data.toList).toArray⟩ : ByteArray) = str (quo s.data.toList) :=
  congrArg (fun l : List UInt8 => (⟨l.toArray⟩ : ByteArray)) (replace_q _)
theorem quo_str (l : List UInt8) : (⟨#[34]⟩ : ByteArray) ++ str l ++ ⟨#[34]⟩ = str (34 :: (l ++ [34])) := by
  apply ByteArray.ext
  simp [str]
theorem cnt_le (s : ByteArray) : Lib.countB s ⟨#[34]⟩ ≤ s.size + 1 := by
  have := Lib.count_le s.data.toList [34]
  rw [data_len] at this
  exact this
set_option maxRecDepth 100000 in
set_option maxHeartbeats 1000000 in
theorem quote_any (s : ByteArray) (hs : s.size ≤ 4000) (w : World) (hM : ML w) :
    Calls Tryz.prog 22 #[.string s] w fun e w' => e = .returned (.tuple #[.string (str (quoS s.data.toList)), .int .i64 (chk s.data.toList)]) ∧ Below w.heap.size w w' := by
  have hm : s.size ≤ maxLen := by unfold maxLen; omega
  by_cases h : chk s.data.toList = 0
  · have HQ := Lib.hid (quoS_yes h)
    have HC := Lib.hid h
    clear h
    obtain ⟨_, m, hcell⟩ := hM
    have HM := Lib.hid hcell
    clear hcell
    have hql := quo_len s.data.toList
    rw [data_len] at hql
    have HL := Lib.hid hql.2
    clear hql
    go_enter Tryz.func22, Tryz.ntmps22
    go_wp2_with fail
    refine (check_any s hm _).mono ?_
    rintro e w' ⟨rfl, rfl⟩
    rw [HC.out]
    have hadd1 := fun W => run_string_add_sum (P := Tryz.prog) W ⟨#[34]⟩ (str (quo s.data.toList)) (by rw [str_size]; have := HL.out; simp [ByteArray.size]; omega)
    have hadd2 := fun W => run_string_add_sum (P := Tryz.prog) W (⟨#[34]⟩ ++ str (quo s.data.toList)) ⟨#[34]⟩ (by rw [ByteArray.size_append, str_size]; have := HL.out; simp [ByteArray.size]; omega)
    go_wp2_with fail
    refine (Tryz.strings_ReplaceAll s ⟨#[34]⟩ ⟨#[34, 34]⟩ m _ (by omega) HM.out (by decide) (by have := cnt_le s; rw [show (⟨#[34, 34]⟩ : ByteArray).size = 2 from rfl]; omega)).mono ?_
    rintro e w' ⟨rfl, hB⟩
    rw [rep_str]
    go_wp2_with fail
    go_ret2
    exact ⟨retSI (by rw [HQ.out, quo_str]) (by rw [HC.out]), hB⟩
  · have HQ := Lib.hid (quoS_no h)
    generalize hcc : chk s.data.toList = c at *
    have HC := Lib.hid hcc
    clear hcc
    go_enter Tryz.func22, Tryz.ntmps22
    go_wp2_with fail
    refine (check_any s hm _).mono ?_
    rintro e w' ⟨rfl, rfl⟩
    rw [HC.out]
    go_wp2_with fail
    go_ret2
    exact ⟨retSI (by rw [HQ.out]; rfl) rfl, Below.refl _ _⟩
set_option maxRecDepth 100000 in
set_option maxHeartbeats 1600000 in
theorem rquote_any (s : ByteArray) (hs : s.size ≤ 4000) (w : World) :
    Calls Tryz.prog 28 #[.string s] w fun e w' => e = .returned (.tuple #[.string (str (quoS s.data.toList)), .int .i64 (chk s.data.toList)]) ∧ Below w.heap.size w w' := by
  have hm : s.size ≤ maxLen := by unfold maxLen; omega
  by_cases h : chk s.data.toList = 0
  · have HQ := Lib.hid (quoS_yes h)
    have HC := Lib.hid h
    have HZ := Lib.hid (chk_z h)
    clear h
    go_enter Tryz.func28, Tryz.ntmps28
    go_wp2_with fail
    refine (rcheck_any s hm _).mono ?_
    rintro e w' ⟨rfl, rfl⟩
    rw [HC.out]
    go_wp2_with fail
    go_loopw [5, 6] (fun v i wr => ∃ k : Nat, k ≤ s.size ∧ i = .int .i64 k ∧ OwnB w.heap.size wr v (34 :: quo (s.data.toList.take k)) ∧ Below w.heap.size w wr) (fun _ i _ => s.size - (intOf i).toNat)
    case atStart => exact ⟨0, Nat.zero_le _, rfl, OwnB.one w (Nat.le_refl _) 34, (Below.refl _ _).alloc (Nat.le_refl _) _⟩
    case round =>
      obtain ⟨k, hk, rfl, ho, hB⟩ := hrel
      obtain ⟨va, vc, rfl, _⟩ := ho.shape
      have HO := Lib.hid ho
      have HB := Lib.hid hB
      have hz := hB.size
      clear ho hB
      have hql := (quo_len (s.data.toList.take k)).2
      have hkl : (s.data.toList.take k).length ≤ s.size := by simp; omega
      have HL2 : Hid ((34 :: quo (s.data.toList.take k)).length ≤ 1000000) := by unfold Hid; simp only [List.length_cons]; omega
      have HL3 : Hid (∀ c, ((34 :: quo (s.data.toList.take k)) ++ [c]).length ≤ 1000000) := by unfold Hid; intro c; simp only [List.length_append, List.length_cons, List.length_nil]; omega
      clear hql hkl
      by_cases hlt : k < s.size
      · have HN : Hid (quo (s.data.toList.take (k + 1)) = quo (s.data.toList.take k) ++ quo [s[k]]) := by unfold Hid; rw [take_snoc s k hlt, quo_app]
        by_cases hc : (s[k].toNat : Int) = 34
        · have HE : Hid (34 :: quo (s.data.toList.take (k + 1)) = 34 :: (quo (s.data.toList.take k) ++ [34, 34])) := by
            unfold Hid; rw [HN.out, show s[k] = 34 from UInt8.toNat_inj.1 (by have : (34 : UInt8).toNat = 34 := rfl; omega)]; rfl
          go_wp2_with (at_builtin; refine wpList_app1 rfl (.tmp 19) _ rfl w.heap.size _ _ rfl (HO.out.alloc _) wr.heap.size 34 rfl (by simp) HL2.out (by simp; omega) ?_)
          intro v1 w1 ho1 hb1
          have HO1 := Lib.hid ho1
          have HB1 := Lib.hid ((HB.out.alloc hz _).trans hb1)
          have hz1 := HB1.out.size
          clear ho1 hb1
          go_wp2_with (at_builtin; refine wpList_app1 rfl (.tmp 29) _ rfl w.heap.size _ _ rfl (HO1.out.alloc _) w1.heap.size 34 rfl (by simp) (HL3.out _) (by simp; omega) ?_)
          intro v2 w2 ho2 hb2
          have HO2 : Hid (OwnB w.heap.size w2 v2 (34 :: (quo (s.data.toList.take k) ++ [34, 34]))) := by unfold Hid; simpa using ho2
          have HB2 := Lib.hid ((HB1.out.alloc hz1 _).trans hb2)
          clear ho2 hb2
          go_wp2_with fail
          go_roundw
          case rel => exact ⟨k + 1, by omega, by go_num, by rw [HE.out]; exact HO2.out, HB2.out⟩
          case measure => simp [intOf]; omega
        · have HE : Hid (34 :: quo (s.data.toList.take (k + 1)) = 34 :: (quo (s.data.toList.take k) ++ [s[k]])) := by
            unfold Hid; rw [HN.out]; simp only [quo]; rw [if_neg (fun e => hc (by rw [e]; rfl))]
          go_wp2_with (at_builtin; refine wpList_app1 rfl (.tmp 19) _ rfl w.heap.size _ _ rfl (HO.out.alloc _) wr.heap.size s[k] rfl (by simp) HL2.out (by simp; omega) ?_)
          intro v1 w1 ho1 hb1
          have HO1 : Hid (OwnB w.heap.size w1 v1 (34 :: (quo (s.data.toList.take k) ++ [s[k]]))) := by unfold Hid; simpa using ho1
          have HB1 := Lib.hid ((HB.out.alloc hz _).trans hb1)
          clear ho1 hb1
          go_wp2_with fail
          go_roundw
          case rel => exact ⟨k + 1, by omega, by go_num, by rw [HE.out]; exact HO1.out, HB1.out⟩
          case measure => simp [intOf]; omega
      · obtain rfl : k = s.size := by omega
        go_wp2_with (at_builtin; refine wpList_app1 rfl (.tmp 32) _ rfl w.heap.size _ _ rfl (HO.out.alloc _) wr.heap.size 34 rfl (by simp) HL2.out (by simp; omega) ?_)
        intro v1 w1 ho1 hb1
        have HB1 := Lib.hid ((HB.out.alloc hz _).trans hb1)
        have hx := ho1.str
        clear ho1 hb1
        go_wp2_with fail
        go_ret2
        exact ⟨retSI (by rw [HQ.out, take_all]) (by rw [HC.out]), HB1.out⟩
  · have HQ := Lib.hid (quoS_no h)
    generalize hcc : chk s.data.toList = c at *
    have HC := Lib.hid hcc
    clear hcc
    go_enter Tryz.func28, Tryz.ntmps28
    go_wp2_with fail
    refine (rcheck_any s hm _).mono ?_
    rintro e w' ⟨rfl, rfl⟩
    rw [HC.out]
    go_wp2_with fail
    go_ret2
    exact ⟨retSI (by rw [HQ.out]; rfl) rfl, Below.refl _ _⟩
end Go.Proofs.YtelanmknimapoaaGreatDoor.Gl
