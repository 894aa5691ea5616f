/- The contract of the program's Unquote. -/
import Derived.Test.YtelanmknimapoaaGreatDoorGlyphE
import Derived.WalkMore
import Derived.ScopeJumps
import Derived.Deep.LoopGhost
namespace Go.Proofs.YtelanmknimapoaaGreatDoor.Gl
open Go.RowKit GM
def inner (l : List UInt8) : List UInt8 := (l.drop 1).take (l.length - 2)
def okU (l : List UInt8) : Bool := decide (2 ≤ l.length) && (l.getD 0 0 == 34) && (l.getD (l.length - 1) 0 == 34) && plain l
def unqS (l : List UInt8) : List UInt8 × Int :=
 if okU l then (match unq (inner l) with | none => ([], 4) | some u => if 256 < u.length then ([], 5) else (u, 0)) else ([], 4)
theorem unqS_bad {l : List UInt8} (h : okU l = false) : unqS l = ([], 4) := by unfold unqS; rw [if_neg (by rw [h]; simp)]
theorem unqS_none {l : List UInt8} (h : okU l = true) (h' : unq (inner l) = none) : unqS l = ([], 4) := by unfold unqS; rw [if_pos h, h']
theorem unqS_long {l u : List UInt8} (h : okU l = true) (h' : unq (inner l) = some u) (h2 : 256 < u.length) : unqS l = ([], 5) := by unfold unqS; rw [if_pos h, h']; simp only; rw [if_pos h2]
theorem unqS_yes {l u : List UInt8} (h : okU l = true) (h' : unq (inner l) = some u) (h2 : ¬ 256 < u.length) : unqS l = (u, 0) := by unfold unqS; rw [if_pos h, h']; simp only; rw [if_neg h2]
theorem zvh (s : ByteArray) (h : s.size < 2) : okU s.data.toList = false := by unfold okU; rw [zbj]; simp; omega
theorem zyv (s : ByteArray) (h : 0 < s.size) (h' : ¬ (s[0].toNat : Int) = 34) : okU s.data.toList = false := by
 unfold okU
 have : (s.data.toList.getD 0 0 == 34) = false := by
  have e : s.data.toList.getD 0 0 = s[0] := by simp [List.getD, h]; rfl
  rw [e, beq_eq_false_iff_ne]; exact fun e => h' (by rw [e]; rfl)
 rw [this]; simp
theorem zyu (s : ByteArray) (h : s.size - 1 < s.size) (h' : ¬ (s[s.size - 1].toNat : Int) = 34) : okU s.data.toList = false := by
 unfold okU
 have : (s.data.toList.getD (s.data.toList.length - 1) 0 == 34) = false := by
  have e : s.data.toList.getD (s.data.toList.length - 1) 0 = s[s.size - 1] := by rw [zbj]; simp [List.getD, h]; rfl
  rw [e, beq_eq_false_iff_ne]; exact fun e => h' (by rw [e]; rfl)
 rw [this]; simp
theorem zvi (s : ByteArray) (h : plain s.data.toList = false) : okU s.data.toList = false := by unfold okU; rw [h]; simp
theorem ydb (s : ByteArray) (h : 2 ≤ s.size) (h0 : (s[0].toNat : Int) = 34) (h1 : (s[s.size - 1].toNat : Int) = 34) (hp : plain s.data.toList = true) : okU s.data.toList = true := by
 unfold okU
 have e : s.data.toList.getD 0 0 = 34 := by
  have e : s.data.toList.getD 0 0 = s[0] := by simp [List.getD, show 0 < s.size by omega]; rfl
  rw [e]; exact UInt8.toNat_inj.1 (by have : (34 : UInt8).toNat = 34 := rfl; omega)
 have e' : s.data.toList.getD (s.data.toList.length - 1) 0 = 34 := by
  have e : s.data.toList.getD (s.data.toList.length - 1) 0 = s[s.size - 1] := by rw [zbj]; simp [List.getD, show s.size - 1 < s.size by omega]; rfl
  rw [e]; exact UInt8.toNat_inj.1 (by have : (34 : UInt8).toNat = 34 := rfl; omega)
 rw [e, e', hp, zbj]; simp; omega
def RestU (L : List UInt8) (T : List UInt8) (k : Nat) : Prop := unq L = (unq (L.drop k)).map (T ++ ·) ∧ T.length ≤ k
theorem RestU.zero (L : List UInt8) : RestU L [] 0 := ⟨by simp, by simp⟩
theorem zdp (L : List UInt8) (k : Nat) (h : k < L.length) : L.drop k = L[k] :: L.drop (k + 1) := List.drop_eq_getElem_cons h
theorem RestU.one {L T : List UInt8} {k : Nat} (h : RestU L T k) (hk : k < L.length) (hc : L[k] ≠ 34) : RestU L (T ++ [L[k]]) (k + 1) := by
 refine ⟨?_, by have := h.2; simp; omega⟩
 rw [h.1, zdp L k hk, zqo _ _ hc, Option.map_map]
 congr 1
 funext x; simp
theorem RestU.two {L T : List UInt8} {k : Nat} (h : RestU L T k) (hk : k + 1 < L.length) (hc : L[k] = 34) (hd : L[k + 1] = 34) : RestU L (T ++ [34]) (k + 2) := by
 refine ⟨?_, by have := h.2; simp; omega⟩
 rw [h.1, zdp L k (by omega), zdp L (k + 1) hk, hc, hd, zuf, Option.map_map]
 congr 1
 funext x; simp
theorem RestU.stop1 {L T : List UInt8} {k : Nat} (h : RestU L T k) (hk : k + 1 = L.length) (hc : L[k] = 34) : unq L = none := by
 rw [h.1, zdp L k (by omega), hk, List.drop_length, hc]; rfl
theorem RestU.stop2 {L T : List UInt8} {k : Nat} (h : RestU L T k) (hk : k + 1 < L.length) (hc : L[k] = 34) (hd : L[k + 1] ≠ 34) : unq L = none := by
 rw [h.1, zdp L k (by omega), zdp L (k + 1) hk, hc]
 simp [unq, hd]
theorem RestU.done {L T : List UInt8} (h : RestU L T L.length) : unq L = some T := by
 rw [h.1, List.drop_length]; simp [unq]
theorem zv6 (s : ByteArray) (h : 2 ≤ s.size) : (s.extract 1 (s.size - 1)).data.toList = inner s.data.toList := by
 unfold inner
 rw [ByteArray.data_extract, Array.toList_extract, zbj]
 simp only [List.extract_eq_take_drop]
 rw [show s.size - 1 - 1 = s.size - 2 by omega]
theorem data_get (s : ByteArray) (k : Nat) (h : k < s.size) : s.data.toList[k]'(by simpa using h) = s[k]'h := rfl
set_option maxRecDepth 100000 in
set_option maxHeartbeats 3200000 in
theorem unquote_any (s : ByteArray) (hs : s.size ≤ 4000) (w : World) :
 Calls Tryz.prog 88 #[.string s] w fun e w' => e = .returned (.tuple #[.string (str (unqS s.data.toList).1), .int .i64 (unqS s.data.toList).2]) ∧ Below w.heap.size w w' := by
 have hm : s.size ≤ maxLen := by unfold maxLen; omega
 by_cases h2 : s.size < 2
 · have HU := Lib.hid (unqS_bad (zvh s h2))
   go_enter Tryz.func88, Tryz.ntmps88
   go_wp2_with fail
   go_step3
   go_wp2_with fail
   try rw [Exit.noGoto_ret]
   go_ret2
   exact ⟨zkg (by rw [HU.out]; rfl) (by rw [HU.out]), Below.refl _ _⟩
 · have h0 : 0 < s.size := by omega
   by_cases c0 : (s[0].toNat : Int) = 34
   · have hl : s.size - 1 < s.size := by omega
     have hi1 : (s.size : Int) - 1 = ((s.size - 1 : Nat) : Int) := by omega
     by_cases c1 : (s[s.size - 1].toNat : Int) = 34
     · cases hp : plain s.data.toList with
       | true =>
        have HO2 := Lib.hid (ydb s (by omega) c0 c1 hp)
        have HP := Lib.hid hp
        clear hp
        have HI := Lib.hid (zv6 s (by omega))
        have hsz : (s.extract 1 (s.size - 1)).size = s.size - 2 := by rw [ByteArray.size_extract]; omega
        go_enter Tryz.func88, Tryz.ntmps88
        go_wp2_with fail
        go_step3
        go_wp2_with fail
        refine (zcq s hm _).mono ?_
        rintro e w' ⟨rfl, rfl⟩
        rw [HP.out]
        go_wp2_with fail
        generalize s.extract 1 (s.size - 1) = z at *
        have hzs : z.size ≤ 4000 := by omega
        clear hsz
        go_step3
        go_wp2_with fail
        go_loopw [4, 5] (fun v i wr => ∃ (k : Nat) (T : List UInt8), k ≤ z.size ∧ i = .int .i64 k ∧ RestU z.data.toList T k ∧ OwnB w.heap.size wr v T ∧ Below w.heap.size w wr) (fun _ i _ => z.size - (intOf i).toNat)
        case atStart => exact ⟨0, [], Nat.zero_le _, rfl, RestU.zero _, OwnB.nil _ _, Below.refl _ _⟩
        case round =>
         obtain ⟨k, T, hk, rfl, hr, ho, hB⟩ := hrel
         obtain ⟨va, vc, rfl, _⟩ := ho.shape
         have HR := Lib.hid hr
         have HO := Lib.hid ho
         have HB := Lib.hid hB
         have hz := hB.size
         have HL : Hid (T.length ≤ 1000000) := by have := hr.2; unfold Hid; omega
         clear hr ho hB
         by_cases hlt : k < z.size
         · have hkl : k < z.data.toList.length := by rw [zbj]; exact hlt
           by_cases hc : (z[k].toNat : Int) = 34
           · have hc34 : z.data.toList[k] = 34 := UInt8.toNat_inj.1 (by have h3 : (34 : UInt8).toNat = 34 := rfl; have h4 := data_get z k hlt; rw [h4]; omega)
             have HC34 := Lib.hid hc34
             clear hc34
             by_cases he : k + 1 = z.size
             · have HU := Lib.hid (unqS_none HO2.out (by rw [← HI.out]; exact HR.out.stop1 (by rw [zbj]; exact he) HC34.out))
               have hei : (k : Int) + 1 = (z.size : Int) := by omega
               go_wp2_with (at_builtin; refine zdr rfl (.tmp 36) _ rfl w.heap.size _ _ rfl (HO.out.alloc _) wr.heap.size 34 rfl (by simp) HL.out (by simp; omega) ?_)
               intro v1 w1 ho1 hb1
               have HB1 := Lib.hid ((HB.out.alloc hz _).trans hb1)
               clear ho1 hb1
               go_wp2_with fail
               try rw [Exit.noGoto_ret]
               go_ret2
               exact ⟨zkg (by rw [HU.out]; rfl) (by rw [HU.out]), HB1.out⟩
             · have hlt2 : k + 1 < z.size := by omega
               have hei : ¬ (k : Int) + 1 = (z.size : Int) := by omega
               by_cases hd : (z[k + 1].toNat : Int) = 34
               · have HN : Hid (RestU z.data.toList (T ++ [34]) (k + 2)) := HR.out.two (by rw [zbj]; exact hlt2) HC34.out (UInt8.toNat_inj.1 (by have h3 : (34 : UInt8).toNat = 34 := rfl; have h4 := data_get z (k + 1) hlt2; rw [h4]; omega))
                 go_wp2_with (at_builtin; refine zdr rfl (.tmp 36) _ rfl w.heap.size _ _ rfl (HO.out.alloc _) wr.heap.size 34 rfl (by simp) HL.out (by simp; omega) ?_)
                 intro v1 w1 ho1 hb1
                 have HO1 := Lib.hid ho1
                 have HB1 := Lib.hid ((HB.out.alloc hz _).trans hb1)
                 clear ho1 hb1
                 go_wp2_with fail
                 refine ⟨⟨k + 2, _, by omega, by go_num, HN.out, HO1.out, HB1.out⟩, ?_⟩
                 simp [intOf]; omega
               · have HU := Lib.hid (unqS_none HO2.out (by rw [← HI.out]; exact HR.out.stop2 (by rw [zbj]; exact hlt2) HC34.out (fun e => hd (by have h4 := data_get z (k + 1) hlt2; rw [← h4, e]; rfl))))
                 have hd' : ((z[k + 1].toNat : Int) != 34) = true := by simpa using hd
                 go_wp2_with (at_builtin; refine zdr rfl (.tmp 36) _ rfl w.heap.size _ _ rfl (HO.out.alloc _) wr.heap.size 34 rfl (by simp) HL.out (by simp; omega) ?_)
                 intro v1 w1 ho1 hb1
                 have HB1 := Lib.hid ((HB.out.alloc hz _).trans hb1)
                 clear ho1 hb1
                 go_wp2_with fail
                 try rw [Exit.noGoto_ret]
                 go_ret2
                 exact ⟨zkg (by rw [HU.out]; rfl) (by rw [HU.out]), HB1.out⟩
           · have HN : Hid (RestU z.data.toList (T ++ [z[k]]) (k + 1)) := HR.out.one hkl (fun e => hc (by have h4 := data_get z k hlt; rw [← h4, e]; rfl))
             go_wp2_with (at_builtin; refine zdr rfl (.tmp 36) _ rfl w.heap.size _ _ rfl (HO.out.alloc _) wr.heap.size z[k] rfl (by simp) HL.out (by simp; omega) ?_)
             intro v1 w1 ho1 hb1
             have HO1 := Lib.hid ho1
             have HB1 := Lib.hid ((HB.out.alloc hz _).trans hb1)
             clear ho1 hb1
             go_wp2_with fail
             go_roundw
             case rel => exact ⟨k + 1, _, by omega, by go_num, HN.out, HO1.out, HB1.out⟩
             case measure => simp [intOf]; omega
         · obtain rfl : k = z.size := by omega
           have HD : Hid (unq (inner s.data.toList) = some T) := by
            unfold Hid; rw [← HI.out]; have := HR.out; rw [← zbj z] at this; exact this.done
           by_cases hT : 256 < T.length
           · have HU := Lib.hid (unqS_long HO2.out HD.out hT)
             have hT' : (256 : Int) < (T.length : Int) := by omega
             go_wp2_with fail
             try rw [Exit.noGoto_ret]
             go_ret2
             exact ⟨zkg (by rw [HU.out]; rfl) (by rw [HU.out]), HB.out⟩
           · have HU := Lib.hid (unqS_yes HO2.out HD.out hT)
             have hx := HO.out.str
             go_wp2_with fail
             try rw [Exit.noGoto_ret]
             go_ret2
             exact ⟨zkg (by rw [HU.out]) (by rw [HU.out]), HB.out⟩
       | false =>
        have HU := Lib.hid (unqS_bad (zvi s hp))
        have HP := Lib.hid hp
        clear hp
        go_enter Tryz.func88, Tryz.ntmps88
        go_wp2_with fail
        go_step3
        go_wp2_with fail
        refine (zcq s hm _).mono ?_
        rintro e w' ⟨rfl, rfl⟩
        rw [HP.out]
        go_wp2_with fail
        try rw [Exit.noGoto_ret]
        go_ret2
        exact ⟨zkg (by rw [HU.out]; rfl) (by rw [HU.out]), Below.refl _ _⟩
     · have HU := Lib.hid (unqS_bad (zyu s hl c1))
       go_enter Tryz.func88, Tryz.ntmps88
       go_wp2_with fail
       go_step3
       go_wp2_with fail
       try rw [Exit.noGoto_ret]
       go_ret2
       exact ⟨zkg (by rw [HU.out]; rfl) (by rw [HU.out]), Below.refl _ _⟩
   · have HU := Lib.hid (unqS_bad (zyv s h0 c0))
     go_enter Tryz.func88, Tryz.ntmps88
     go_wp2_with fail
     go_step3
     go_wp2_with fail
     try rw [Exit.noGoto_ret]
     go_ret2
     exact ⟨zkg (by rw [HU.out]; rfl) (by rw [HU.out]), Below.refl _ _⟩
end Go.Proofs.YtelanmknimapoaaGreatDoor.Gl
