/- The executor of runs, part SxZj. -/
import Derived.Test.YtelanmknimapoaaGreatDoorSxMb
import Derived.Orders
import Derived.Lib.LaidTab
import Derived.Lib.Join
/- An executor of closed runs: drawn regions (1): the walk of a schedule. -/
namespace Go.Proofs.YtelanmknimapoaaGreatDoor.Sx
open Go
variable {P : Program} {G : Env}
def zox (ops : Array Oper) (listed : Array Bool) : Nat := (List.range ops.size).countP fun i => !listed.getD i true
theorem ze1 {ops : Array Oper} {listed : Array Bool} {i : Nat} (h : i ∈ Region.ready .any ops listed) :
 i < ops.size ∧ listed.getD i true = false ∧ ∃ o, ops[i]? = some o ∧ ∀ e ∈ o.after, Region.binds .any e = true → listed.getD e.on false = true := by
 unfold Region.ready at h
 rw [List.mem_filter] at h
 obtain ⟨h1, h2⟩ := h
 have hi : i < ops.size := by simpa using h1
 refine ⟨hi, ?_, ops[i], by simp [hi], ?_⟩
 · cases hl : listed.getD i true with
   | false => rfl
   | true => rw [hl] at h2; simp at h2
 · intro e he hb
   have ho : ops[i]? = some ops[i] := by simp [hi]
   rw [ho] at h2
   simp only [Option.map_some, Option.getD_some, Bool.and_eq_true, Array.all_eq_true_iff_forall_mem] at h2
   have := h2.2 e he
   rw [hb] at this
   simpa using this
theorem znb {ops : Array Oper} {listed : Array Bool} {i : Nat} (hi : i < ops.size) (hl : listed.getD i true = false) : zox ops (listed.setIfInBounds i true) + 1 ≤ zox ops listed := by
 have hsz : i < listed.size := by
  rw [Array.getD_eq_getD_getElem?] at hl
  cases h : listed[i]? with
  | none => rw [h] at hl; cases hl
  | some b => exact (Array.getElem?_eq_some_iff.1 h).1
 have hset : ∀ j, (listed.setIfInBounds i true).getD j true = if j = i then true else listed.getD j true := by
  intro j
  simp only [Array.getD_eq_getD_getElem?, Array.getElem?_setIfInBounds]
  by_cases e : i = j
  · subst e; simp [hsz]
  · rw [if_neg e, if_neg (fun h => e h.symm)]
 unfold zox
 have gen : ∀ l : List Nat, i ∈ l → (l.countP fun j => !(listed.setIfInBounds i true).getD j true) + 1 ≤ l.countP fun j => !listed.getD j true := by
  intro l
  have mono : ∀ l : List Nat, (l.countP fun j => !(listed.setIfInBounds i true).getD j true) ≤ l.countP fun j => !listed.getD j true := by
   intro l
   apply List.countP_mono_left
   intro j _ hj
   rw [hset] at hj
   by_cases e : j = i
   · rw [if_pos e] at hj; cases hj
   · rw [if_neg e] at hj; exact hj
  induction l with
  | nil => intro h; cases h
  | cons x l ih =>
   intro h
   rw [List.countP_cons, List.countP_cons]
   by_cases e : x = i
   · subst e
     have h1 : (!(listed.setIfInBounds x true).getD x true) = false := by rw [hset, if_pos rfl]; rfl
     have h2 : (!listed.getD x true) = true := by rw [hl]; rfl
     rw [h1, h2]
     have := mono l
     simp only [Bool.false_eq_true, if_false, if_true]
     omega
   · have hm : i ∈ l := by
      cases h with
      | head => exact absurd rfl e
      | tail _ h => exact h
     have := ih hm
     have h1 : (!(listed.setIfInBounds i true).getD x true) = (!listed.getD x true) := by rw [hset, if_neg e]
     rw [h1]
     omega
 exact gen _ (by simpa using hi)
theorem zsq {ops : Array Oper} {listed : Array Bool} (h : zox ops listed = 0) : Region.ready .any ops listed = [] := by
 cases hr : Region.ready .any ops listed with
 | nil => rfl
 | cons i l =>
  obtain ⟨h1, h2, _⟩ := ze1 (ops := ops) (listed := listed) (i := i) (by rw [hr]; exact .head _)
  have := znb h1 h2
  omega
theorem ztx {ops : Array Oper} {listed : Array Bool} (hsz : listed.size = ops.size) (hback : ∀ i o, ops[i]? = some o → ∀ e ∈ o.after, Region.binds .any e = true → e.on < i)
 (h : Region.ready .any ops listed = []) : ∀ i, i < ops.size → listed.getD i false = true := by
 intro i
 induction i using Nat.strongRecOn with
 | ind i ih =>
  intro hi
  cases hl : listed.getD i false with
  | true => rfl
  | false =>
   exfalso
   have hl' : listed.getD i true = false := by
    rw [Array.getD_eq_getD_getElem?] at hl ⊢
    have : listed[i]? = some listed[i] := by simp [hsz, hi]
    rw [this] at hl ⊢
    exact hl
   have : i ∈ Region.ready .any ops listed := by
    unfold Region.ready
    rw [List.mem_filter]
    refine ⟨by simpa using hi, ?_⟩
    have ho : ops[i]? = some ops[i] := by simp [hi]
    rw [ho, hl']
    simp only [Option.map_some, Option.getD_some, Bool.not_false, Bool.true_and, Array.all_eq_true_iff_forall_mem]
    intro e he
    cases hb : Region.binds .any e with
    | false => rfl
    | true =>
     have hlt := hback i _ ho e he hb
     simp [ih e.on hlt (by omega)]
   rw [h] at this
   cases this
theorem zsm {ops : Array Oper} {b : Frame} {cs : List Frame} {k' : List Item} {I : Array Bool → Act → World → Prop}
 (hstep : ∀ listed a w i rest, I listed a w → i ∈ Region.ready .any ops listed →
  ∃ a1 w1, Steps P (lone (b.atR a (.inRegion ops (i :: rest) :: k')) cs w) (lone (b.atR a1 (.inRegion ops rest :: k')) cs w1) ∧ I (listed.setIfInBounds i true) a1 w1) :
 ∀ (fuel t : Nat) (listed : Array Bool) (a : Act) (w : World), I listed a w → zox ops listed ≤ fuel →
 ∃ listed1 a1 w1, Steps P (lone (b.atR a (.inRegion ops (Region.linearise.go .any ops fuel t listed []) :: k')) cs w) (lone (b.atR a1 k') cs w1) ∧ I listed1 a1 w1 ∧ Region.ready .any ops listed1 = [] := by
 intro fuel
 induction fuel with
 | zero =>
  intro t listed a w hI hn
  exact ⟨listed, a, w, by simpa [Region.linearise.go] using Steps.one stepR_region_end, hI, zsq (by omega)⟩
 | succ fuel ih =>
  intro t listed a w hI hn
  simp only [Region.linearise.go]
  change ∃ listed1 a1 w1, Steps P (lone (b.atR a (.inRegion ops (match (Region.ready .any ops listed)[t % (Region.ready .any ops listed).length]? with
   | some i => Region.linearise.go .any ops fuel (t / (Region.ready .any ops listed).length) (listed.setIfInBounds i true) [i]
   | none => [].reverse) :: k')) cs w) (lone (b.atR a1 k') cs w1) ∧ I listed1 a1 w1 ∧ Region.ready .any ops listed1 = []
  cases hi : (Region.ready .any ops listed)[t % (Region.ready .any ops listed).length]? with
  | none =>
   have hnil : Region.ready .any ops listed = [] := by
    cases hr : Region.ready .any ops listed with
    | nil => rfl
    | cons x xs =>
     rw [hr] at hi
     have hlt : t % (x :: xs).length < (x :: xs).length := Nat.mod_lt _ (by simp)
     simp at hi
     simp at hlt
     omega
   exact ⟨listed, a, w, by simpa using Steps.one stepR_region_end, hI, hnil⟩
  | some i =>
   simp only []
   rw [linearise_go_acc, List.reverse_singleton, List.singleton_append]
   have hm := List.mem_of_getElem? hi
   obtain ⟨a1, w1, s1, hI1⟩ := hstep listed a w i _ hI hm
   obtain ⟨g1, g2, _⟩ := ze1 hm
   have := znb g1 g2
   obtain ⟨l2, a2, w2, s2, hI2, hr⟩ := ih _ _ a1 w1 hI1 (by omega)
   exact ⟨l2, a2, w2, s1.trans s2, hI2, hr⟩
end Go.Proofs.YtelanmknimapoaaGreatDoor.Sx
/- An executor of closed runs: drawn regions (2): what surely comes before. -/
namespace Go.Proofs.YtelanmknimapoaaGreatDoor.Sx
open Go
variable {P : Program} {G : Env}
theorem zmx (e : Edge) : zbx e = Region.binds .any e := by
 unfold zbx Region.binds
 cases e.ground <;> rfl
theorem zes (m i : Nat) : bit m i = m.testBit i := by
 unfold bit Nat.testBit
 show Nat.beq ((m >>> i) &&& 1) 1 = (1 &&& (m >>> i) != 0)
 rw [Nat.and_comm, Nat.one_and_eq_mod_two]
 rcases Nat.mod_two_eq_zero_or_one (m >>> i) with h | h <;> rw [h] <;> rfl
noncomputable def maskN (acc : T Nat) : List Edge → Nat → Nat
 | [], m => m
 | e :: es, m => if zbx e = true then maskN acc es (m ||| ((1 <<< e.on) ||| zaz acc e.on)) else maskN acc es m
noncomputable def zbf : List Oper → Nat → T Nat → T Nat
 | [], _, acc => acc
 | o :: os, i, acc => zbf os (i + 1) (acc.set i (some (maskN acc o.after.toList 0)))
theorem zjb (acc : T Nat) : ∀ (es : List Edge) (m : Nat) (k : Nat → XR'), znr acc es m k = k (maskN acc es m)
 | [], m, k => rfl
 | e :: es, m, k => by
  unfold znr maskN
  cases hb : zbx e with
  | false => rw [cond_false, if_neg (by simp)]; exact zjb acc es m k
  | true => rw [cond_true, if_pos rfl, zar]; exact zjb acc es _ k
theorem zrh : ∀ (os : List Oper) (i : Nat) (acc : T Nat) (k : T Nat → XR'), zy3 os i acc k = k (zbf os i acc)
 | [], _, _, _ => rfl
 | o :: os, i, acc, k => by
  unfold zy3 zbf
  rw [zjb, T.put_eq]
  exact zrh os (i + 1) _ k
theorem zgb (t : T Nat) (n x i : Nat) : zaz (t.set n (some x)) i = if i = n then x else zaz t i := by
 unfold zaz
 rw [T.get_set]
 by_cases e : i = n
 · rw [if_pos e, if_pos e]
 · rw [if_neg e, if_neg e]
theorem zjc {acc : T Nat} {i : Nat} : ∀ (es : List Edge) (m : Nat), (maskN acc es m).testBit i = true → m.testBit i = true ∨ ∃ e ∈ es, zbx e = true ∧ (e.on = i ∨ (zaz acc e.on).testBit i = true)
 | [], m, h => .inl h
 | e :: es, m, h => by
  unfold maskN at h
  by_cases hb : zbx e = true
  · rw [if_pos hb] at h
    rcases zjc es _ h with h | ⟨e', h1, h2, h3⟩
    · rw [Nat.testBit_or, Nat.testBit_or] at h
      simp only [Bool.or_eq_true] at h
      rcases h with h | h | h
      · exact .inl h
      · refine .inr ⟨e, .head _, hb, .inl ?_⟩
        rw [Nat.one_shiftLeft, Nat.testBit_two_pow] at h
        simpa using h
      · exact .inr ⟨e, .head _, hb, .inr h⟩
    · exact .inr ⟨e', .tail _ h1, h2, h3⟩
  · rw [if_neg hb] at h
    rcases zjc es _ h with h | ⟨e', h1, h2, h3⟩
    · exact .inl h
    · exact .inr ⟨e', .tail _ h1, h2, h3⟩
theorem zg5 {j : Nat} : ∀ (os : List Oper) (i : Nat) (acc : T Nat), j < i → zaz (zbf os i acc) j = zaz acc j
 | [], _, _, _ => rfl
 | o :: os, i, acc, h => by
  unfold zbf
  rw [zg5 os (i + 1) _ (by omega), zgb, if_neg (by omega)]
theorem znq {n : Nat} {o : Oper} : ∀ (pre : List Oper) (i : Nat) (acc : T Nat), pre[n]? = some o →
 ∃ acc', zaz (zbf pre i acc) (i + n) = maskN acc' o.after.toList 0 ∧ ∀ j, j < i + n → zaz acc' j = zaz (zbf pre i acc) j := by
 intro pre i acc h
 induction pre generalizing n i acc with
 | nil => cases h
 | cons x pre ih =>
  unfold zbf
  cases n with
  | zero =>
   cases h
   refine ⟨acc, ?_, fun j hj => ?_⟩
   · rw [zg5 _ _ _ (by omega), zgb, if_pos (by omega)]
   · rw [zg5 _ _ _ (by omega), zgb, if_neg (by omega)]
  | succ n =>
   obtain ⟨acc', h1, h2⟩ := ih (n := n) (i + 1) (acc.set i (some (maskN acc x.after.toList 0))) (by simpa using h)
   have e : i + 1 + n = i + (n + 1) := by omega
   rw [e] at h1 h2
   exact ⟨acc', h1, h2⟩
theorem zmc {ops : List Oper} (hback : ∀ i o, ops[i]? = some o → ∀ e ∈ o.after, Region.binds .any e = true → e.on < i) {j i : Nat} {o : Oper} (ho : ops[j]? = some o) (h : bit (zaz (zbf ops 0 .leaf) j) i = true) :
 ∃ e ∈ o.after, Region.binds .any e = true ∧ (e.on = i ∨ bit (zaz (zbf ops 0 .leaf) e.on) i = true) := by
 obtain ⟨acc', h1, h2⟩ := znq ops 0 .leaf ho
 rw [Nat.zero_add] at h1 h2
 rw [zes, h1] at h
 rcases zjc _ _ h with h | ⟨e, he, hb, h3⟩
 · simp at h
 · rw [zmx] at hb
   have he' : e ∈ o.after := by simpa using he
   refine ⟨e, he', hb, ?_⟩
   rcases h3 with h3 | h3
   · exact .inl h3
   · right
     rw [zes, ← h2 e.on (hback j o ho e he' hb)]
     exact h3
def Closed (ops : Array Oper) (listed : Array Bool) : Prop :=
 ∀ j i, listed.getD j false = true → bit (zaz (zbf ops.toList 0 .leaf) j) i = true → listed.getD i false = true
theorem zhh {ops : Array Oper} {listed : Array Bool} (hback : ∀ i o, ops.toList[i]? = some o → ∀ e ∈ o.after, Region.binds .any e = true → e.on < i) (hc : Closed ops listed) {j : Nat} (hj : j ∈ Region.ready .any ops listed) :
 ∀ i, bit (zaz (zbf ops.toList 0 .leaf) j) i = true → listed.getD i false = true := by
 intro i hi
 obtain ⟨_, _, o, ho, he⟩ := ze1 hj
 obtain ⟨e, h1, h2, h3⟩ := zmc hback (by simpa using ho) hi
 have := he e h1 h2
 rcases h3 with rfl | h3
 · exact this
 · exact hc _ _ this h3
theorem ztk {ops : Array Oper} {listed : Array Bool} (hback : ∀ i o, ops.toList[i]? = some o → ∀ e ∈ o.after, Region.binds .any e = true → e.on < i) (hc : Closed ops listed) {j : Nat} (hj : j ∈ Region.ready .any ops listed) :
 Closed ops (listed.setIfInBounds j true) := by
 have mono : ∀ i, listed.getD i false = true → (listed.setIfInBounds j true).getD i false = true := by
  intro i hi
  simp only [Array.getD_eq_getD_getElem?, Array.getElem?_setIfInBounds] at hi ⊢
  by_cases e : j = i
  · subst e
    cases h : listed[j]? with
    | none => rw [h] at hi; cases hi
    | some b => simp [(Array.getElem?_eq_some_iff.1 h).1]
  · rw [if_neg e]; exact hi
 intro a i ha hb
 by_cases e : a = j
 · subst e
   exact mono i (zhh hback hc hj i hb)
 · have : listed.getD a false = true := by
    simp only [Array.getD_eq_getD_getElem?, Array.getElem?_setIfInBounds] at ha ⊢
    rw [if_neg (fun h => e h.symm)] at ha
    exact ha
   exact mono i (hc a i this hb)
end Go.Proofs.YtelanmknimapoaaGreatDoor.Sx
/- An executor of closed runs: drawn regions (3): the plan. -/
namespace Go.Proofs.YtelanmknimapoaaGreatDoor.Sx
open Go
variable {P : Program} {G : Env}
theorem zgs {l : List Step} : ∀ (os : List Oper) (i : Nat) (w : T Nat) (k : T Nat → XR'), ziq os i w k = some l →
 ∃ w', k w' = some l ∧ (∀ n o d, os[n]? = some o → o.dst = some d → w'.get d = some (i + n)) ∧
  (∀ d j, w'.get d = some j → w.get d = some j ∨ ∃ n o, os[n]? = some o ∧ o.dst = some d ∧ j = i + n) ∧ (∀ d j, w.get d = some j → w'.get d = some j)
 | [], i, w, k, h => ⟨w, h, fun n o d ho => by simp at ho, fun d j h => .inl h, fun d j h => h⟩
 | o :: os, i, w, k, h => by
  unfold ziq at h
  cases hd : o.dst with
  | none =>
   rw [hd] at h
   obtain ⟨w', g1, g2, g3, g4⟩ := zgs os (i + 1) w k h
   refine ⟨w', g1, fun n o' d ho hd' => ?_, fun d j hj => ?_, g4⟩
   · cases n with
     | zero => cases ho; rw [hd] at hd'; cases hd'
     | succ n => have := g2 n o' d (by simpa using ho) hd'; rw [this]; congr 1; omega
   · rcases g3 d j hj with h | ⟨n, o', a, b, c⟩
     · exact .inl h
     · exact .inr ⟨n + 1, o', by simpa using a, b, by omega⟩
  | some d0 =>
   rw [hd] at h
   simp only at h
   cases hw : w.get d0 with
   | some x => rw [hw] at h; cases h
   | none =>
    rw [hw] at h
    simp only [T.put_eq] at h
    obtain ⟨w', g1, g2, g3, g4⟩ := zgs os (i + 1) _ k h
    have h0 : w'.get d0 = some i := g4 d0 i (by rw [T.get_set, if_pos rfl])
    refine ⟨w', g1, fun n o' d ho hd' => ?_, fun d j hj => ?_, fun d j hj => ?_⟩
    · cases n with
      | zero => cases ho; rw [hd] at hd'; cases hd'; exact h0
      | succ n => have := g2 n o' d (by simpa using ho) hd'; rw [this]; congr 1; omega
    · rcases g3 d j hj with h | ⟨n, o', a, b, c⟩
      · rw [T.get_set] at h
        by_cases e : d = d0
        · rw [if_pos e] at h; cases h; exact .inr ⟨0, o, rfl, by rw [hd, e], rfl⟩
        · rw [if_neg e] at h; exact .inl h
      · exact .inr ⟨n + 1, o', by simpa using a, b, by omega⟩
    · refine g4 d j ?_
      rw [T.get_set]
      by_cases e : d = d0
      · subst e; rw [hw] at hj; cases hj
      · rw [if_neg e]; exact hj
theorem zrc {ms w : T Nat} : ∀ (os : List Oper) (i : Nat), zvb ms w i os = true → ∀ n o, os[n]? = some o → opOk ms w (zaz ms (i + n)) (i + n) o = true
 | [], _, _, n, o, ho => by simp at ho
 | x :: os, i, h, n, o, ho => by
  unfold zvb at h
  cases hx : opOk ms w (zaz ms i) i x with
  | false => rw [hx] at h; cases h
  | true =>
   rw [hx, cond_true] at h
   cases n with
   | zero => cases ho; exact hx
   | succ n =>
    have := zrc os (i + 1) h n o (by simpa using ho)
    have e : i + 1 + n = i + (n + 1) := by omega
    rw [e] at this
    exact this
noncomputable def stepOf (P : Program) (G : Env) (all : List Oper) (ms : T Nat) (x : Nat × Oper) : Step := .mk x.1 (zaz ms x.1) (zbk all x.2.guard) (bxOf P G x.2) (zeo x.2.dst)
theorem zrt {β : Type} (all : List Oper) (ms : T Nat) : ∀ (l : List (Nat × Oper)) (k : List Step → β), zz2 P G all ms l k = k (l.map (stepOf P G all ms))
 | [], _ => rfl
 | x :: l, k => by
  obtain ⟨j, o⟩ := x
  unfold zz2
  rw [zrt all ms l]
  simp only [zar, ydz, ybd, yd1]
  rfl
structure PlanOk (P : Program) (G : Env) (ops : List Oper) (l : List Step) (ms w : T Nat) : Prop where
 mask : ms = zbf ops 0 .leaf
 steps : l = (zch (number ops 0) ms (number ops 0) 0).map (stepOf P G ops ms)
 op : ∀ j o, ops[j]? = some o → opOk ms w (zaz ms j) j o = true
 writes : ∀ j o d, ops[j]? = some o → o.dst = some d → w.get d = some j
 written : ∀ d j, w.get d = some j → ∃ o, ops[j]? = some o ∧ o.dst = some d
theorem zvp {ops : List Oper} {l : List Step} (h : zk3 P G ops = some l) : ∃ ms w, PlanOk P G ops l ms w := by
 unfold zk3 at h
 rw [zrh] at h
 obtain ⟨w, h1, h2, h3, h4⟩ := zgs _ _ _ _ h
 cases ho : zvb (zbf ops 0 .leaf) w 0 ops with
 | false => rw [ho] at h1; cases h1
 | true =>
  rw [ho, cond_true, zrt] at h1
  cases h1
  refine ⟨_, w, rfl, rfl, fun j o hj => ?_, fun j o d hj hd => ?_, fun d j hd => ?_⟩
  · have := zrc ops 0 ho j o hj
    rwa [Nat.zero_add] at this
  · have := h2 j o d hj hd
    rwa [Nat.zero_add] at this
  · rcases h3 d j hd with h | ⟨n, o, a, b, c⟩
    · cases h
    · rw [Nat.zero_add] at c; subst c; exact ⟨o, a, b⟩
theorem zj0 {j : Nat} : ∀ (es : List Edge), zmq j es = true → ∀ e ∈ es, zbx e = true → e.on < j
 | [], _, e, he, _ => by cases he
 | x :: es, h, e, he, hb => by
  unfold zmq at h
  cases hx : (cond (zbx x) (Nat.blt x.on j) true) with
  | false => rw [hx] at h; cases h
  | true =>
   rw [hx, cond_true] at h
   cases he with
   | head => rw [hb, cond_true] at hx; exact Nat.le_of_ble_eq_true hx
   | tail _ he => exact zj0 es h e he hb
theorem PlanOk.back {ops : List Oper} {l : List Step} {ms w : T Nat} (p : PlanOk P G ops l ms w) : ∀ i o, ops[i]? = some o → ∀ e ∈ o.after, Region.binds .any e = true → e.on < i := by
 intro i o ho e he hb
 have h := p.op i o ho
 unfold opOk at h
 simp only [Bool.and_eq_true] at h
 exact zj0 _ h.1.1.1 e (by simpa using he) (by rw [zmx]; exact hb)
theorem PlanOk.named {ops : List Oper} {l : List Step} {ms w : T Nat} (p : PlanOk P G ops l ms w) {j : Nat} {o : Oper} (ho : ops[j]? = some o) {t : Tmp} (ht : Operand.tmp t ∈ o.op.operands) {i : Nat} {x : Oper} (hx : ops[i]? = some x) (hd : x.dst = some t) :
 i ≠ j ∧ (bit (zaz ms j) i = true ∨ bit (zaz ms i) j = true) := by
 have h := p.op j o ho
 unfold opOk at h
 simp only [Bool.and_eq_true] at h
 have h1 := h.1.1.2
 have hw := p.writes i x t hx hd
 have noB : ∀ z : Bool, cond z false false = true → False := fun z h => by cases z <;> cases h
 have gen : ∀ os : List Operand, zoz ms w (zaz ms j) j os = true → Operand.tmp t ∈ os → i ≠ j ∧ (bit (zaz ms j) i = true ∨ bit (zaz ms i) j = true) := by
  intro os
  induction os with
  | nil => intro _ h; cases h
  | cons y os ih =>
   intro h hm
   cases hm with
   | head =>
    unfold zoz at h
    rw [hw] at h
    simp only at h
    cases e : Nat.beq i j with
    | true => rw [e] at h; cases h
    | false =>
     rw [e, cond_false] at h
     refine ⟨fun e' => (by subst e'; rw [Nat.beq_refl] at e; cases e), ?_⟩
     cases hb : bit (zaz ms j) i with
     | true => exact .inl rfl
     | false =>
      rw [hb, cond_false] at h
      cases hb2 : bit (zaz ms i) j with
      | true => exact .inr rfl
      | false => rw [hb2] at h; cases h
   | tail _ hm =>
    cases y with
    | tmp u =>
     unfold zoz at h
     refine ih ?_ hm
     cases hc : zoz ms w (zaz ms j) j os with
     | true => rfl
     | false =>
      rw [hc] at h
      exact (noB _ h).elim
    | _ => exact ih h hm
 exact gen _ h1 (by simpa using ht)
theorem PlanOk.guarded {ops : List Oper} {l : List Step} {ms w : T Nat} (p : PlanOk P G ops l ms w) {j : Nat} {o : Oper} (ho : ops[j]? = some o) {g : Nat} {want : Bool} (hg : o.guard = some (g, want)) : g < j ∧ bit (zaz ms j) g = true := by
 have h := p.op j o ho
 unfold opOk at h
 rw [hg] at h
 simp only [Bool.and_eq_true] at h
 exact ⟨Nat.le_of_ble_eq_true h.1.2.1, h.1.2.2⟩
end Go.Proofs.YtelanmknimapoaaGreatDoor.Sx
/- An executor of closed runs: drawn regions (4): the order in which the executor goes through them. -/
namespace Go.Proofs.YtelanmknimapoaaGreatDoor.Sx
open Go
variable {P : Program} {G : Env}
theorem zg6 {acc : T Nat} {i : Nat} : ∀ (es : List Edge) (m : Nat), m.testBit i = true → (maskN acc es m).testBit i = true
 | [], m, h => h
 | e :: es, m, h => by
  unfold maskN
  by_cases hb : zbx e = true
  · rw [if_pos hb]; exact zg6 es _ (by rw [Nat.testBit_or, h]; rfl)
  · rw [if_neg hb]; exact zg6 es m h
theorem zg7 {acc : T Nat} {i : Nat} : ∀ (es : List Edge) (m : Nat) (e : Edge), e ∈ es → zbx e = true → (e.on = i ∨ (zaz acc e.on).testBit i = true) → (maskN acc es m).testBit i = true
 | [], m, e, he, _, _ => by cases he
 | x :: es, m, e, he, hb, h => by
  unfold maskN
  cases he with
  | head =>
   rw [if_pos hb]
   refine zg6 es _ ?_
   rw [Nat.testBit_or, Nat.testBit_or]
   rcases h with h | h
   · have : (1 <<< x.on).testBit i = true := by rw [Nat.one_shiftLeft, Nat.testBit_two_pow]; simpa using h
     rw [this]; simp
   · rw [h]; simp
  | tail _ he =>
   by_cases hx : zbx x = true
   · rw [if_pos hx]; exact zg7 es _ e he hb h
   · rw [if_neg hx]; exact zg7 es m e he hb h
variable {ops : List Oper}
theorem zvs (hback : ∀ i o, ops[i]? = some o → ∀ e ∈ o.after, Region.binds .any e = true → e.on < i) {j i : Nat} {o : Oper} (ho : ops[j]? = some o) {e : Edge} (he : e ∈ o.after) (hb : Region.binds .any e = true)
 (h : e.on = i ∨ bit (zaz (zbf ops 0 .leaf) e.on) i = true) : bit (zaz (zbf ops 0 .leaf) j) i = true := by
 obtain ⟨acc', h1, h2⟩ := znq ops 0 .leaf ho
 rw [Nat.zero_add] at h1 h2
 rw [zes, h1]
 refine zg7 _ _ e (by simpa using he) (by rw [zmx]; exact hb) ?_
 rcases h with h | h
 · exact .inl h
 · right
   rw [zes, ← h2 e.on (hback j o ho e he hb)] at h
   exact h
theorem zno : ∀ (os : List Oper) (i : Nat) (acc : T Nat) (j : Nat), i + os.length ≤ j → zaz (zbf os i acc) j = zaz acc j
 | [], _, _, _, _ => rfl
 | o :: os, i, acc, j, h => by
  unfold zbf
  rw [List.length_cons] at h
  rw [zno os (i + 1) _ j (by omega), zgb, if_neg (by omega)]
theorem zvr {j i : Nat} (h : bit (zaz (zbf ops 0 .leaf) j) i = true) : ∃ o, ops[j]? = some o := by
 cases ho : ops[j]? with
 | some o => exact ⟨o, rfl⟩
 | none =>
  have : ops.length ≤ j := by simpa using ho
  rw [zno ops 0 .leaf j (by omega), zes] at h
  have e : zaz .leaf j = 0 := rfl
  rw [e] at h
  simp at h
theorem zmb (hback : ∀ i o, ops[i]? = some o → ∀ e ∈ o.after, Region.binds .any e = true → e.on < i) : ∀ (j i : Nat), bit (zaz (zbf ops 0 .leaf) j) i = true → i < j := by
 intro j
 induction j using Nat.strongRecOn with
 | ind j ih =>
  intro i h
  obtain ⟨o, ho⟩ := zvr h
  obtain ⟨e, he, hb, h3⟩ := zmc hback ho h
  have hlt := hback j o ho e he hb
  rcases h3 with rfl | h3
  · exact hlt
  · have := ih e.on hlt i h3
    omega
theorem zs7 (hback : ∀ i o, ops[i]? = some o → ∀ e ∈ o.after, Region.binds .any e = true → e.on < i) : ∀ (j i k : Nat), bit (zaz (zbf ops 0 .leaf) j) i = true → bit (zaz (zbf ops 0 .leaf) i) k = true →
 bit (zaz (zbf ops 0 .leaf) j) k = true := by
 intro j
 induction j using Nat.strongRecOn with
 | ind j ih =>
  intro i k h h'
  obtain ⟨o, ho⟩ := zvr h
  obtain ⟨e, he, hb, h3⟩ := zmc hback ho h
  refine zvs hback ho he hb (.inr ?_)
  rcases h3 with rfl | h3
  · exact h'
  · exact ih e.on (hback j o ho e he hb) i k h3 h'
theorem ze0 : ∀ (os : List Oper) (i : Nat) (x : Nat × Oper), x ∈ number os i ↔ i ≤ x.1 ∧ os[x.1 - i]? = some x.2
 | [], i, x => by simp [number]
 | o :: os, i, x => by
  unfold number
  rw [List.mem_cons, ze0 os (i + 1) x]
  constructor
  · rintro (h | ⟨h1, h2⟩)
    · subst h; simp
    · refine ⟨by omega, ?_⟩
      have : x.1 - i = (x.1 - (i + 1)) + 1 := by omega
      rw [this]
      simpa using h2
  · rintro ⟨h1, h2⟩
    by_cases e : x.1 = i
    · left
      rw [e, Nat.sub_self] at h2
      simp at h2
      obtain ⟨a, c⟩ := x
      simp only at e h2
      subst e; subst h2; rfl
    · right
      refine ⟨by omega, ?_⟩
      have : x.1 - i = (x.1 - (i + 1)) + 1 := by omega
      rw [this] at h2
      simpa using h2
theorem zdk (m d : Nat) : ∀ (l : List (Nat × Oper)) (x : Nat × Oper), x ∈ zdl m d l ↔ x ∈ l ∧ bit m x.1 = true ∧ bit d x.1 = false
 | [], x => by simp [zdl]
 | (i, o) :: l, x => by
  unfold zdl
  cases hc : (bit m i && !bit d i) with
  | true =>
   rw [cond_true, List.mem_cons, List.mem_cons, zdk m d l x]
   simp only [Bool.and_eq_true, Bool.not_eq_true'] at hc
   constructor
   · rintro (h | ⟨h1, h2⟩)
     · subst h; exact ⟨.inl rfl, hc⟩
     · exact ⟨.inr h1, h2⟩
   · rintro ⟨h | h1, h2⟩
     · exact .inl h
     · exact .inr ⟨h1, h2⟩
  | false =>
   rw [cond_false, List.mem_cons, zdk m d l x]
   constructor
   · rintro ⟨h1, h2⟩; exact ⟨.inr h1, h2⟩
   · rintro ⟨h | h1, h2⟩
     · subst h
       simp only at h2
       rw [h2.1, h2.2] at hc
       cases hc
     · exact ⟨h1, h2⟩
theorem zf7 : ∀ (os : List Oper) (i : Nat), (number os i).Pairwise (fun x y => x.1 < y.1)
 | [], _ => .nil
 | o :: os, i => by
  unfold number
  refine .cons (fun y hy => ?_) (zf7 os (i + 1))
  have := ((ze0 os (i + 1) y).1 hy).1
  show i < y.1
  omega
theorem zd1 (m d : Nat) : ∀ (l : List (Nat × Oper)), l.Pairwise (fun x y => x.1 < y.1) → (zdl m d l).Pairwise (fun x y => x.1 < y.1)
 | [], _ => .nil
 | (i, o) :: l, h => by
  unfold zdl
  cases h with
  | cons h1 h2 =>
   cases hc : (bit m i && !bit d i) with
   | true => rw [cond_true]; exact .cons (fun y hy => h1 y ((zdk m d l y).1 hy).1) (zd1 m d l h2)
   | false => rw [cond_false]; exact zd1 m d l h2
end Go.Proofs.YtelanmknimapoaaGreatDoor.Sx
/- An executor of closed runs: drawn regions (5): the executor's order is a good one. -/
namespace Go.Proofs.YtelanmknimapoaaGreatDoor.Sx
open Go
variable {P : Program} {G : Env} {ops : List Oper}
structure OrdOk (ops : List Oper) (d : Nat) (L : List (Nat × Oper)) : Prop where
 mem : ∀ x ∈ L, ops[x.1]? = some x.2 ∧ bit d x.1 = false
 nodup : L.Pairwise (fun x y => x.1 ≠ y.1)
 bef : ∀ pre x post, L = pre ++ x :: post → ∀ i, bit (zaz (zbf ops 0 .leaf) x.1) i = true → bit d i = true ∨ ∃ y ∈ pre, y.1 = i
 all : ∀ i, i < ops.length → bit d i = true ∨ ∃ y ∈ L, y.1 = i
theorem zkb (a b i : Nat) : bit (a ||| b) i = (bit a i || bit b i) := by rw [zes, zes, zes, Nat.testBit_or]
theorem zkz (hback : ∀ i o, ops[i]? = some o → ∀ e ∈ o.after, Region.binds .any e = true → e.on < i) {m d : Nat} {L2 : List (Nat × Oper)}
 (hcl : ∀ j i, bit m j = true → bit (zaz (zbf ops 0 .leaf) j) i = true → bit m i = true) (h2 : OrdOk ops (d ||| m) L2) : OrdOk ops d (zdl m d (number ops 0) ++ L2) := by
 have inL1 : ∀ i, i < ops.length → bit m i = true → bit d i = false → ∃ y ∈ zdl m d (number ops 0), y.1 = i := by
  intro i hi hm hd
  refine ⟨(i, ops[i]), ?_, rfl⟩
  rw [zdk, ze0]
  exact ⟨⟨Nat.zero_le _, by simp [hi]⟩, hm, hd⟩
 have memL1 : ∀ x ∈ zdl m d (number ops 0), ops[x.1]? = some x.2 ∧ bit m x.1 = true ∧ bit d x.1 = false := by
  intro x hx
  rw [zdk, ze0] at hx
  exact ⟨by simpa using hx.1.2, hx.2⟩
 have hsort := zd1 m d _ (zf7 ops 0)
 have lt_of : ∀ x : Nat × Oper, ops[x.1]? = some x.2 → x.1 < ops.length := fun x h => (List.getElem?_eq_some_iff.1 h).1
 refine ⟨fun x hx => ?_, ?_, fun pre x post e i hi => ?_, fun i hi => ?_⟩
 · rcases List.mem_append.1 hx with h | h
   · exact ⟨(memL1 x h).1, (memL1 x h).2.2⟩
   · have := h2.mem x h
     rw [zkb] at this
     exact ⟨this.1, (Bool.or_eq_false_iff.1 this.2).1⟩
 · rw [List.pairwise_append]
   refine ⟨hsort.imp fun h => Nat.ne_of_lt h, h2.nodup, fun x hx y hy e => ?_⟩
   have h1 := (memL1 x hx).2.1
   have h3 := (h2.mem y hy).2
   rw [zkb, ← e, h1, Bool.or_true] at h3
   cases h3
 · rcases List.append_eq_append_iff.1 e with ⟨a, e1, e2⟩ | ⟨a, e1, e2⟩
   · -- x lies in L2
     have hx := h2.mem x (by rw [e2]; simp)
     rcases h2.bef a x post e2 i hi with h | ⟨y, hy, hyi⟩
     · rw [zkb] at h
       cases hd : bit d i with
       | true => exact .inl rfl
       | false =>
        rw [hd, Bool.false_or] at h
        have : i < ops.length := Nat.lt_trans (zmb hback _ _ hi) (lt_of x hx.1)
        obtain ⟨y, h1, h3⟩ := inL1 i this h hd
        exact .inr ⟨y, by rw [e1]; exact List.mem_append_left _ h1, h3⟩
     · exact .inr ⟨y, by rw [e1]; exact List.mem_append_right _ hy, hyi⟩
   · cases a with
     | nil =>
      rw [List.append_nil] at e1
      rw [List.nil_append] at e2
      have hx := h2.mem x (by rw [← e2]; simp)
      rcases h2.bef [] x post e2.symm i hi with h | ⟨y, hy, _⟩
      · rw [zkb] at h
        cases hd : bit d i with
        | true => exact .inl rfl
        | false =>
         rw [hd, Bool.false_or] at h
         have : i < ops.length := Nat.lt_trans (zmb hback _ _ hi) (lt_of x hx.1)
         obtain ⟨y, h1, h3⟩ := inL1 i this h hd
         exact .inr ⟨y, by rw [← e1]; exact h1, h3⟩
      · cases hy
     | cons z a =>
      rw [List.cons_append] at e2
      cases e2
      -- x lies in L1
      have hx := memL1 x (by rw [e1]; simp)
      have hm := hcl _ _ hx.2.1 hi
      cases hd : bit d i with
      | true => exact .inl rfl
      | false =>
       have hlt := zmb hback _ _ hi
       obtain ⟨y, h1, h3⟩ := inL1 i (Nat.lt_trans hlt (lt_of x hx.1)) hm hd
       refine .inr ⟨y, ?_, h3⟩
       rw [e1] at h1 hsort
       rcases List.mem_append.1 h1 with h | h
       · exact h
       · exfalso
         rw [List.pairwise_append] at hsort
         cases h with
         | head => omega
         | tail _ h =>
          cases hsort.2.1 with
          | cons hh _ => have := hh y h; omega
 · rcases h2.all i hi with h | ⟨y, hy, hyi⟩
   · rw [zkb] at h
     cases hd : bit d i with
     | true => exact .inl rfl
     | false =>
      rw [hd, Bool.false_or] at h
      obtain ⟨y, h1, h3⟩ := inL1 i hi h hd
      exact .inr ⟨y, List.mem_append_left _ h1, h3⟩
   · exact .inr ⟨y, List.mem_append_right _ hy, hyi⟩
theorem zf8 : ∀ (os : List Oper) (i : Nat), (number os i).length = os.length
 | [], _ => rfl
 | o :: os, i => by unfold number; rw [List.length_cons, zf8 os (i + 1), List.length_cons]
theorem zl6 (hback : ∀ i o, ops[i]? = some o → ∀ e ∈ o.after, Region.binds .any e = true → e.on < i) : ∀ (l : List (Nat × Oper)) (d : Nat), OrdOk ops d (zch (number ops 0) (zbf ops 0 .leaf) l d)
 | [], d => by
  unfold zch
  have hb : ∀ i, bit (Nat.sub (Nat.pow 2 (number ops 0).length) 1) i = decide (i < ops.length) := by
   intro i
   rw [zf8, zes]
   exact Nat.testBit_two_pow_sub_one ops.length i
  rw [← List.append_nil (zdl _ d (number ops 0))]
  refine zkz hback (fun j i hj hi => ?_) ⟨fun x hx => (by cases hx), .nil, fun pre x post e => ?_, fun i hi => .inl ?_⟩
  · rw [hb] at hj ⊢
    have := zmb hback _ _ hi
    simp only [decide_eq_true_eq] at hj ⊢
    omega
  · cases pre <;> cases e
  · rw [zkb, hb]; simp [hi]
 | (i, o) :: l, d => by
  unfold zch
  cases he : zob o with
  | false => rw [cond_false]; exact zl6 hback l d
  | true =>
   rw [cond_true, zar, zar]
   refine zkz hback (fun j k hj hk => ?_) (zl6 hback l _)
   have e : Nat.lor (zaz (zbf ops 0 .leaf) i) (Nat.pow 2 i) = zaz (zbf ops 0 .leaf) i ||| 2 ^ i := rfl
   rw [e, zkb] at hj ⊢
   have hp : ∀ j, bit (2 ^ i) j = decide (i = j) := fun j => by rw [zes, Nat.testBit_two_pow]
   rw [hp] at hj
   simp only [Bool.or_eq_true, decide_eq_true_eq] at hj ⊢
   rcases hj with h | rfl
   · exact .inl (zs7 hback _ _ _ h hk)
   · exact .inl hk
end Go.Proofs.YtelanmknimapoaaGreatDoor.Sx
/- An executor of closed runs: drawn regions (6): the executor's way through one. -/
namespace Go.Proofs.YtelanmknimapoaaGreatDoor.Sx
open Go
variable {P : Program} {G : Env}
def zet (j : Nat) : List Nat → Ivs → Ivs
 | [], l => l
 | n :: ns, l => zet j ns ((j, n, n + 1) :: l)
theorem zop {β : Type} (j : Nat) : ∀ (ns : List Nat) (l : Ivs) (k : Ivs → β), ybl j ns l k = k (zet j ns l)
 | [], _, _ => rfl
 | n :: ns, l, k => zop j ns ((j, n, n + 1) :: l) k
def zkd (j a b : Nat) (l : Ivs) : Ivs := if a = b then l else (j, a, b) :: l
theorem yau {β : Type} (j a b : Nat) (l : Ivs) (k : Ivs → β) : yem j a b l k = k (zkd j a b l) := by
 unfold yem zkd
 by_cases e : a = b
 · subst e; rw [if_pos rfl, Nat.beq_refl]; rfl
 · rw [if_neg e]
   cases h : Nat.beq a b with
   | true => exact absurd (Nat.eq_of_beq_eq_true h) e
   | false => rfl
noncomputable def zhn (lim : Nat) : List Nat → List Nat → List Nat
 | [], l => l
 | n :: ns, l => zhn lim ns (addL lim n l)
theorem znp {β : Type} (lim : Nat) : ∀ (ns l : List Nat) (k : List Nat → β), zrg lim ns l k = k (zhn lim ns l)
 | [], _, _ => rfl
 | n :: ns, l, k => by
  have : zrg lim (n :: ns) l k = addW lim n l fun l => zrg lim ns l k := rfl
  rw [this, zxi]
  exact znp lim ns _ k
theorem zdh {lim m : Nat} : ∀ (ns l : List Nat), m ∈ zhn lim ns l ↔ m ∈ l ∨ (m ∈ ns ∧ m < lim)
 | [], l => by simp [zhn]
 | n :: ns, l => by
  unfold zhn
  rw [zdh ns, mem_addL, List.mem_cons]
  constructor
  · rintro ((h | ⟨h1, h2⟩) | ⟨h1, h2⟩)
    · exact .inl h
    · exact .inr ⟨.inl h1, h1 ▸ h2⟩
    · exact .inr ⟨.inr h1, h2⟩
  · rintro (h | ⟨h1 | h1, h2⟩)
    · exact .inl (.inl h)
    · exact .inl (.inr ⟨h1, h1 ▸ h2⟩)
    · exact .inr ⟨h1, h2⟩
inductive Chain (one : T Value → Hp → Bx → R) (sz : Nat) : List Step → Ivs → Svs → T Value → Hp → T Value → Hp → Prop
 | nil (ivs : Ivs) (sv : Svs) (tm : T Value) (hp : Hp) : Chain one sz [] ivs sv tm hp tm hp
 | skip (j m : Nat) (w : WBx) (b : Bx) (d : Dst) (l : List Step) (ivs : Ivs) (sv : Svs) (tm : T Value) (hp : Hp) (tm1 tm2 : T Value) (hp2 : Hp) :
  (∃ f, w = .ask f ∧ ∀ x y, f tm x y = y) → (∀ K, d tm sz undef K = K tm1) → Chain one sz l ivs sv tm1 hp tm2 hp2 → Chain one sz (.mk j m w b (.mk d) :: l) ivs sv tm hp tm2 hp2
 | go (j m : Nat) (w : WBx) (b : Bx) (d : Dst) (l : List Step) (ivs : Ivs) (sv : Svs) (tm : T Value) (hp : Hp) (v : Value) (q : Hp) (tm1 tm2 : T Value) (hp2 : Hp) :
  (w = .yes ∨ ∃ f, w = .ask f ∧ ∀ x y, f tm x y = x) → one tm ⟨hp.h, hp.next, zb8 m ivs hp.hid, [], hp.next⟩ b = .ok v q → (q.wr = [] ∨ zfx m q.wr sv = true) → hp.next ≤ q.next →
  (∀ K, d tm sz v K = K tm1) →
  Chain one sz l (zet j q.wr (zkd j hp.next q.next ivs)) ((j, hp.next, zb8 m ivs hp.hid) :: sv) tm1 ⟨q.h, q.next, hp.hid, zhn hp.lim q.wr hp.wr, hp.lim⟩ tm2 hp2 →
  Chain one sz (.mk j m w b (.mk d) :: l) ivs sv tm hp tm2 hp2
def zsb (sz : Nat) : Step → Prop
 | .mk _ _ w _ (.mk d) => (∀ f, w = .ask f → ∀ tm, (∀ x y, f tm x y = x) ∨ (∀ x y, f tm x y = y) ∨ (∀ x y, f tm x y = .no)) ∧ ∀ tm v, ∃ tm1, ∀ K, d tm sz v K = K tm1
theorem zio {one : T Value → Hp → Bx → R} {sz : Nat} {K : T Value → Hp → R} {v : Value} {hp' : Hp} : ∀ (l : List Step) (ivs : Ivs) (sv : Svs) (tm : T Value) (hp : Hp), (∀ x ∈ l, zsb sz x) →
 zkf one sz l ivs sv tm hp K = .ok v hp' → ∃ tm1 hp1, Chain one sz l ivs sv tm hp tm1 hp1 ∧ K tm1 hp1 = .ok v hp'
 | [], ivs, sv, tm, hp, _, h => ⟨tm, hp, .nil .., h⟩
 | .mk j m w b (.mk d) :: l, ivs, sv, tm, hp, hfine, h => by
  obtain ⟨hask, hdst⟩ := hfine _ (.head _)
  have ih := fun ivs sv tm hp => zio (one := one) (K := K) (v := v) (hp' := hp') l ivs sv tm hp (fun x hx => hfine x (.tail _ hx))
  -- the operation is done
  have done : (w = .yes ∨ ∃ f, w = .ask f ∧ ∀ x y, f tm x y = x) → zr0 one (zkf one sz l) sz j m d b ivs sv tm hp K = .ok v hp' →
   ∃ tm1 hp1, Chain one sz (.mk j m w b (.mk d) :: l) ivs sv tm hp tm1 hp1 ∧ K tm1 hp1 = .ok v hp' := by
   intro hw h
   obtain ⟨h0, next, hid, wr, lim⟩ := hp
   replace h : zru (zb8 m ivs hid) (fun hd => zpx (zkf one sz l) sz j m d ivs sv tm hd next hid wr lim K (one tm ⟨h0, next, hd, [], next⟩ b)) = .ok v hp' := h
   rw [zn9] at h
   unfold zpx at h
   obtain ⟨u, q, g0, h⟩ := zi6 h
   obtain ⟨qh, qn, qhid, qwr, qlim⟩ := q
   replace h : drawn (zkf one sz l) sz j m d ivs sv tm (zb8 m ivs hid) next hid wr lim K u qh qn qwr = .ok v hp' := h
   unfold drawn at h
   obtain ⟨e1, h⟩ := zaw h
   obtain ⟨e2, h⟩ := zaw h
   obtain ⟨tm1, e3⟩ := hdst tm u
   rw [e3, yau, zop, znp] at h
   obtain ⟨tm2, hp2, k1, k2⟩ := ih _ _ _ _ h
   refine ⟨tm2, hp2, .go j m w b d l ivs sv tm ⟨h0, next, hid, wr, lim⟩ u ⟨qh, qn, qhid, qwr, qlim⟩ tm1 tm2 hp2 hw g0 ?_ (Nat.le_of_ble_eq_true e2) e3 k1, k2⟩
   cases hq : isNone qwr with
   | true =>
    left
    cases qwr with
    | nil => rfl
    | cons x l => cases hq
   | false => rw [hq] at e1; exact .inr e1
  replace h : zmr one sz (zkf one sz l) j m w b d ivs sv tm hp K = .ok v hp' := h
  unfold zmr at h
  cases w with
  | bad => cases h
  | yes => exact done (.inl rfl) h
  | ask f =>
   replace h : f tm (zr0 one (zkf one sz l) sz j m d b ivs sv tm hp K) (d tm sz undef fun tm => zkf one sz l ivs sv tm hp K) = .ok v hp' := h
   rcases hask f rfl tm with hx | hx | hx
   · rw [hx] at h; exact done (.inr ⟨f, rfl, hx⟩) h
   · rw [hx] at h
     obtain ⟨tm1, e3⟩ := hdst tm undef
     rw [e3] at h
     obtain ⟨tm2, hp2, k1, k2⟩ := ih _ _ _ _ h
     exact ⟨tm2, hp2, .skip j m _ b d l ivs sv tm hp tm1 tm2 hp2 ⟨f, rfl, hx⟩ e3 k1, k2⟩
   · rw [hx] at h; cases h
theorem zup (P : Program) (G : Env) (all : List Oper) (ms : T Nat) (sz : Nat) (x : Nat × Oper) : zsb sz (stepOf P G all ms x) := by
 obtain ⟨j, o⟩ := x
 cases hd : zeo o.dst with
 | mk d =>
  have e : stepOf P G all ms (j, o) = .mk j (zaz ms j) (zbk all o.guard) (bxOf P G o) (.mk d) := by unfold stepOf; rw [hd]
  rw [e]
  refine ⟨fun f hf tm => ?_, fun tm v => ?_⟩
  · unfold zbk at hf
    split at hf
    · cases hf
    · rename_i j' want _
      split at hf
      · rename_i t ht
        obtain ⟨g, hg, _⟩ := T.getPath_spec (α := Value) (t + 1) t (Nat.lt_succ_self t)
        rw [hg] at hf
        replace hf : zkk want (fun want => WBx.ask fun tm a b => askB want (g tm) a b) = .ask f := hf
        rw [zd3] at hf
        cases hf
        show (∀ x y, askB want (g tm) x y = x) ∨ (∀ x y, askB want (g tm) x y = y) ∨ (∀ x y, askB want (g tm) x y = .no)
        cases g tm with
        | none => exact .inr (.inl fun _ _ => rfl)
        | some u =>
         cases u <;> first
          | exact .inr (.inl fun _ _ => rfl)
          | (rename_i t'; cases t' <;> first | exact .inr (.inl fun _ _ => rfl) | exact .inr (.inr fun _ _ => rfl))
          | (rename_i t'; cases t' <;> cases want <;> first | exact .inl fun _ _ => rfl | exact .inr (.inl fun _ _ => rfl))
      · cases hf
  · cases ho : o.dst with
    | none => rw [ho] at hd; cases hd; exact ⟨tm, fun _ => rfl⟩
    | some t =>
     rw [ho] at hd
     obtain ⟨s, e, hs⟩ := T.setPath_spec (α := Value) (β := R) (t + 1) t (Nat.lt_succ_self t)
     have e2 : zeo (some t) = T.SBx.rec (motive := fun _ => DBx) (fun s => .mk fun tm sz v k => pick (lt t sz) (s tm v k) (k tm)) (T.setPath (β := R) (T.pathF (t + 1) t)) := rfl
     rw [e2, e] at hd
     cases hd
     cases hl : lt t sz with
     | true => obtain ⟨t', h1, _⟩ := hs tm v; exact ⟨t', fun K => by show pick (lt t sz) (s tm v K) (K tm) = _; rw [hl]; exact h1 K⟩
     | false => exact ⟨tm, fun K => by show pick (lt t sz) (s tm v K) (K tm) = _; rw [hl]; rfl⟩
end Go.Proofs.YtelanmknimapoaaGreatDoor.Sx
/- An executor of closed runs: drawn regions (7): entering one; renamings cut at a number. -/
namespace Go.Proofs.YtelanmknimapoaaGreatDoor.Sx
open Go
variable {P : Program} {G : Env}
def Rho.cut (ρ : Rho) (m : Nat) : Rho := { ρ with ok := fun n => ρ.ok n ∧ n < m }
theorem Rho.cut_le (ρ : Rho) (m : Nat) : (ρ.cut m).Le ρ := ⟨fun _ h => h.1, fun _ _ => rfl, fun _ _ => rfl, fun _ _ => rfl, fun _ _ => rfl, rfl, fun _ _ => rfl⟩
theorem Rho.cut_mono {ρ ρ' : Rho} (h : ρ.Le ρ') {m m' : Nat} (hm : m ≤ m') : (ρ.cut m).Le (ρ'.cut m') :=
 ⟨fun n x => ⟨h.ok n x.1, Nat.lt_of_lt_of_le x.2 hm⟩, fun n x => h.blk n x.1, fun n x => h.sh n x.1, fun n x => h.esz n x.1, fun n x => h.clen n x.1, h.sym, fun n x => h.obj n x.1⟩
theorem zpa (hm : P.follows .mixedOrders = true) {ops : Array Oper} {b : Frame} {a : Act} {cs : List Frame} {k' : List Item} {w : World} {id : Nat} {I : Array Bool → Act → World → Prop}
 (hI : I (Array.replicate ops.size false) a { w with drawn := w.drawn + 1 })
 (hstep : ∀ listed a w i rest, I listed a w → i ∈ Region.ready .any ops listed →
  ∃ a1 w1, Steps P (lone (b.atR a (.inRegion ops (i :: rest) :: k')) cs w) (lone (b.atR a1 (.inRegion ops rest :: k')) cs w1) ∧ I (listed.setIfInBounds i true) a1 w1) :
 ∃ listed1 a1 w1, Steps P (lone (b.atR a (.code (.region id ops true) :: k')) cs w) (lone (b.atR a1 k') cs w1) ∧ I listed1 a1 w1 ∧ Region.ready .any ops listed1 = [] := by
 have h0 := stepR_region_draw (P := P) (b := b) (a := a) (k := k') (cs := cs) (w := w) (ops := ops) (id := id)
 have hsch : ∀ t, Region.schedule (P.follows .mixedOrders) ops t = Region.linearise .any ops t := fun t => by simp only [Region.schedule, hm, Bool.true_or, if_true]
 rw [hsch] at h0
 have hn : zox ops (Array.replicate ops.size false) ≤ ops.size := by
  unfold zox
  refine Nat.le_trans (List.countP_le_length) ?_
  simp
 obtain ⟨l1, a1, w1, s1, g1, g2⟩ := zsm (P := P) hstep ops.size (w.tape w.drawn (.order b.fn id)) _ a _ hI hn
 exact ⟨l1, a1, w1, .head h0 s1, g1, g2⟩
end Go.Proofs.YtelanmknimapoaaGreatDoor.Sx
/- An executor of closed runs: drawn regions (8): the executor's way, place by place. -/
namespace Go.Proofs.YtelanmknimapoaaGreatDoor.Sx
open Go
variable {P : Program} {G : Env}
structure Ent where
 tm : T Value
 hp : Hp
 ivs : Ivs
 sv : Svs
 dn : Bool
 v : Value
 q : Hp
def Link (one : T Value → Hp → Bx → R) (sz : Nat) : Step → Ent → Ent → Prop
 | .mk j m w b (.mk d), e, e' =>
  (e.dn = false ∧ (∃ f, w = .ask f ∧ ∀ x y, f e.tm x y = y) ∧ (∀ K, d e.tm sz undef K = K e'.tm) ∧ e'.hp = e.hp ∧ e'.ivs = e.ivs ∧ e'.sv = e.sv) ∨
  (e.dn = true ∧ (w = .yes ∨ ∃ f, w = .ask f ∧ ∀ x y, f e.tm x y = x) ∧ one e.tm ⟨e.hp.h, e.hp.next, zb8 m e.ivs e.hp.hid, [], e.hp.next⟩ b = .ok e.v e.q ∧
   (e.q.wr = [] ∨ zfx m e.q.wr e.sv = true) ∧ e.hp.next ≤ e.q.next ∧ (∀ K, d e.tm sz e.v K = K e'.tm) ∧
   e'.ivs = zet j e.q.wr (zkd j e.hp.next e.q.next e.ivs) ∧ e'.sv = (j, e.hp.next, zb8 m e.ivs e.hp.hid) :: e.sv ∧
   e'.hp = ⟨e.q.h, e.q.next, e.hp.hid, zhn e.hp.lim e.q.wr e.hp.wr, e.hp.lim⟩)
def yg7 (e : Ent) (X : Nat → Ent) : Nat → Ent
 | 0 => e
 | p + 1 => X p
theorem ztl {one : T Value → Hp → Bx → R} {sz : Nat} {l : List Step} {ivs : Ivs} {sv : Svs} {tm : T Value} {hp : Hp} {tm2 : T Value} {hp2 : Hp} (c : Chain one sz l ivs sv tm hp tm2 hp2) :
 ∃ X : Nat → Ent, (X 0).tm = tm ∧ (X 0).hp = hp ∧ (X 0).ivs = ivs ∧ (X 0).sv = sv ∧ (X l.length).tm = tm2 ∧ (X l.length).hp = hp2 ∧ ∀ p x, l[p]? = some x → Link one sz x (X p) (X (p + 1)) := by
 induction c with
 | nil ivs sv tm hp => exact ⟨fun _ => ⟨tm, hp, ivs, sv, false, undef, hp⟩, rfl, rfl, rfl, rfl, rfl, rfl, fun p x h => by simp at h⟩
 | skip j m w b d l ivs sv tm hp tm1 tm2 hp2 h1 h2 _ ih =>
  obtain ⟨X, a1, a2, a3, a4, a5, a6, a7⟩ := ih
  refine ⟨yg7 ⟨tm, hp, ivs, sv, false, undef, hp⟩ X, rfl, rfl, rfl, rfl, a5, a6, fun p x h => ?_⟩
  cases p with
  | zero =>
   cases h
   refine .inl ⟨rfl, h1, fun K => ?_, a2, a3, a4⟩
   show d tm sz undef K = K (X 0).tm
   rw [a1]; exact h2 K
  | succ p => exact a7 p x (by simpa using h)
 | go j m w b d l ivs sv tm hp v q tm1 tm2 hp2 h1 h2 h3 h4 h5 _ ih =>
  obtain ⟨X, a1, a2, a3, a4, a5, a6, a7⟩ := ih
  refine ⟨yg7 ⟨tm, hp, ivs, sv, true, v, q⟩ X, rfl, rfl, rfl, rfl, a5, a6, fun p x h => ?_⟩
  cases p with
  | zero =>
   cases h
   refine .inr ⟨rfl, h1, h2, h3, h4, fun K => ?_, a3, a4, a2⟩
   show d tm sz v K = K (X 0).tm
   rw [a1]; exact h5 K
  | succ p => exact a7 p x (by simpa using h)
/-! What is hidden. -/
theorem zd0 (a b : Nat) (l : List (Nat × Nat)) (n : Nat) : hidden ((a, b) :: l) n = true ↔ (a ≤ n ∧ n < b) ∨ hidden l n = true := by
 show pick (andB (Nat.ble a n) (lt n b)) true (hidden l n) = true ↔ _
 rw [zd6]
 cases h : (Nat.ble a n && lt n b) with
 | true =>
  rw [Bool.and_eq_true, Nat.ble_eq, zjd] at h
  simp [h]
 | false =>
  have : ¬ (a ≤ n ∧ n < b) := by
   intro h'
   have : (Nat.ble a n && lt n b) = true := by rw [Bool.and_eq_true, Nat.ble_eq, zjd]; exact h'
   rw [h] at this; cases this
  simp [this]
theorem zjf {a b : Nat} (hab : a ≤ b) {l : List (Nat × Nat)} {n : Nat} (h : (a ≤ n ∧ n < b) ∨ hidden l n = true) : hidden (zny a b l) n = true := by
 unfold zny
 cases l with
 | nil =>
  rw [zd0]
  rcases h with h | h
  · exact .inl h
  · cases h
 | cons x l =>
  obtain ⟨c, d⟩ := x
  show hidden (cond (Nat.beq d a) (cond (Nat.ble c d) ((c, b) :: l) ((a, b) :: (c, d) :: l)) ((a, b) :: (c, d) :: l)) n = true
  have hdef : hidden ((a, b) :: (c, d) :: l) n = true := by rw [zd0]; exact h
  cases h1 : Nat.beq d a with
  | false => exact hdef
  | true =>
   cases h2 : Nat.ble c d with
   | false => exact hdef
   | true =>
    have e1 := Nat.eq_of_beq_eq_true h1
    have e2 := Nat.le_of_ble_eq_true h2
    rw [cond_true, cond_true, zd0]
    rw [zd0] at h
    rcases h with h | h | h
    · exact .inl (by omega)
    · exact .inl (by omega)
    · exact .inr h
theorem zld {m n : Nat} {hid : List (Nat × Nat)} (h : hidden hid n = true) : ∀ ivs : Ivs, (∀ i a b, (i, a, b) ∈ ivs → a ≤ b) → hidden (zb8 m ivs hid) n = true
 | [], _ => h
 | (i, a, b) :: l, hw => by
  have ih := zld (m := m) h l fun i a b hm => hw i a b (.tail _ hm)
  show hidden (cond (bit m i) (zb8 m l hid) (zny a b (zb8 m l hid))) n = true
  cases bit m i with
  | true => exact ih
  | false => exact zjf (hw i a b (.head _)) (.inr ih)
theorem zjm {m n : Nat} {hid : List (Nat × Nat)} {i a b : Nat} (hb : bit m i = false) (hn : a ≤ n ∧ n < b) : ∀ ivs : Ivs, (∀ i a b, (i, a, b) ∈ ivs → a ≤ b) → (i, a, b) ∈ ivs → hidden (zb8 m ivs hid) n = true
 | (i', a', b') :: l, hw, hm => by
  show hidden (cond (bit m i') (zb8 m l hid) (zny a' b' (zb8 m l hid))) n = true
  cases hm with
  | head => rw [hb]; exact zjf (hw i a b (.head _)) (.inl hn)
  | tail _ hm =>
   have ih := zjm (hid := hid) hb hn l (fun i a b hm => hw i a b (.tail _ hm)) hm
   cases bit m i' with
   | true => exact ih
   | false => exact zjf (hw i' a' b' (.head _)) (.inr ih)
theorem zg4 {j a b : Nat} {l : Ivs} {x : Nat × Nat × Nat} : x ∈ zkd j a b l ↔ x ∈ l ∨ (a ≠ b ∧ x = (j, a, b)) := by
 unfold zkd
 by_cases e : a = b
 · rw [if_pos e]; simp [e]
 · rw [if_neg e, List.mem_cons]
   constructor
   · rintro (h | h)
     · exact .inr ⟨e, h⟩
     · exact .inl h
   · rintro (h | ⟨_, h⟩)
     · exact .inr h
     · exact .inl h
theorem zc4 {j : Nat} {x : Nat × Nat × Nat} : ∀ (ns : List Nat) (l : Ivs), x ∈ zet j ns l ↔ x ∈ l ∨ ∃ n ∈ ns, x = (j, n, n + 1)
 | [], l => by simp [zet]
 | n :: ns, l => by
  unfold zet
  rw [zc4 ns, List.mem_cons]
  constructor
  · rintro ((h | h) | ⟨k, h1, h2⟩)
    · exact .inr ⟨n, .head _, h⟩
    · exact .inl h
    · exact .inr ⟨k, .tail _ h1, h2⟩
  · rintro (h | ⟨k, h1, h2⟩)
    · exact .inl (.inr h)
    · cases h1 with
      | head => exact .inl (.inl h2)
      | tail _ h1 => exact .inr ⟨k, h1, h2⟩
theorem zgu {c : Nat} {h : List (Nat × Nat)} : ∀ {ns : List Nat}, zff c h ns = true → ∀ n ∈ ns, c ≤ n ∨ hidden h n = true
 | x :: ns, hu, n, hn => by
  unfold zff at hu
  cases h1 : Nat.ble c x with
  | true =>
   rw [h1, cond_true] at hu
   cases hn with
   | head => exact .inl (Nat.le_of_ble_eq_true h1)
   | tail _ hn => exact zgu hu n hn
  | false =>
   rw [h1, cond_false] at hu
   cases h2 : hidden h x with
   | false => rw [h2] at hu; cases hu
   | true =>
    rw [h2, cond_true] at hu
    cases hn with
    | head => exact .inr h2
    | tail _ hn => exact zgu hu n hn
theorem zm9 {m : Nat} {w : List Nat} {j c : Nat} {h : List (Nat × Nat)} (hb : bit m j = false) : ∀ {sv : Svs}, zfx m w sv = true → (j, c, h) ∈ sv → ∀ n ∈ w, c ≤ n ∨ hidden h n = true
 | (j', c', h') :: l, hu, hm => by
  unfold zfx at hu
  cases hm with
  | head =>
   rw [hb, cond_false] at hu
   cases h1 : zff c h w with
   | false => rw [h1] at hu; cases hu
   | true => exact zgu h1
  | tail _ hm =>
   have : zfx m w l = true := by
    cases h1 : bit m j' with
    | true => rw [h1, cond_true] at hu; exact hu
    | false =>
     rw [h1, cond_false] at hu
     cases h2 : zff c' h' w with
     | false => rw [h2] at hu; cases hu
     | true => rw [h2, cond_true] at hu; exact hu
   exact zm9 hb this hm
/-! Temporaries. -/
theorem ybg {dst : Option Tmp} {f : Dst} (hd : zeo dst = .mk f) {tm tm1 : T Value} {sz : Nat} {v : Value} (h : ∀ K : T Value → R, f tm sz v K = K tm1) (t : Nat) :
 evA tm1 (.tmp t) = if dst = some t ∧ t < sz then v else evA tm (.tmp t) := by
 let hp0 : Hp := ⟨.leaf, 0, [], [], 0⟩
 have inj : ∀ {tm2 : T Value}, (∀ K : T Value → R, f tm sz v K = K tm2) → evA tm1 (.tmp t) = evA tm2 (.tmp t) := by
  intro tm2 h2
  have := (h fun x => .ok (evA x (.tmp t)) hp0).symm.trans (h2 fun x => .ok (evA x (.tmp t)) hp0)
  exact (R.ok.injEq .. ▸ this).1
 cases dst with
 | none => cases hd; rw [inj (tm2 := tm) fun K => rfl]; simp
 | some d =>
  obtain ⟨s, e, hs⟩ := T.setPath_spec (α := Value) (β := R) (d + 1) d (Nat.lt_succ_self d)
  have e2 : zeo (some d) = T.SBx.rec (motive := fun _ => DBx) (fun s => .mk fun tm sz v k => pick (lt d sz) (s tm v k) (k tm)) (T.setPath (β := R) (T.pathF (d + 1) d)) := rfl
  rw [e2, e] at hd
  cases hd
  obtain ⟨t', g1, g2⟩ := hs tm v
  cases hl : lt d sz with
  | true =>
   have hlt : d < sz := by simpa using hl
   rw [inj (tm2 := t') fun K => by show pick (lt d sz) (s tm v K) (K tm) = _; rw [hl]; exact g1 K]
   show zaf (t'.get t) undef (fun v => v) = _
   rw [g2]
   by_cases e3 : t = d
   · subst e3; rw [if_pos rfl, if_pos ⟨rfl, hlt⟩]; rfl
   · rw [if_neg e3, if_neg (fun h => e3 (Option.some.inj h.1).symm)]; rfl
  | false =>
   have hlt : ¬ d < sz := fun h => by
    have : lt d sz = true := by simpa using h
    rw [hl] at this; cases this
   rw [inj (tm2 := tm) fun K => by show pick (lt d sz) (s tm v K) (K tm) = _; rw [hl]; rfl]
   rw [if_neg (fun h => hlt (by obtain ⟨h1, h2⟩ := h; cases h1; exact h2))]
theorem zm8 {all : Array Oper} {o : Oper} {f : T Value → R → R → R} (h : zbk all.toList o.guard = .ask f) {ρ : Rho} {tm : T Value} {tmps : Array Value}
 (ht : ∀ j want d, o.guard = some (j, want) → (all[j]?).bind (·.dst) = some d → VR ρ (evA tm (.tmp d)) (tmps.getD d undef)) :
 (Region.wanted o (yielded all tmps) = true ∧ ∀ a b, f tm a b = a) ∨ (Region.wanted o (yielded all tmps) = false ∧ ∀ a b, f tm a b = b) ∨ ∀ a b, f tm a b = .no := by
 unfold zbk at h
 unfold Region.wanted
 cases hg : o.guard with
 | none => rw [hg] at h; cases h
 | some x =>
  obtain ⟨j, want⟩ := x
  rw [hg] at h
  simp only at h ⊢
  split at h
  · rename_i d hd
    obtain ⟨g, hgp, hgs⟩ := T.getPath_spec (α := Value) (d + 1) d (Nat.lt_succ_self d)
    rw [hgp] at h
    replace h : zkk want (fun want => WBx.ask fun tm a b => askB want (g tm) a b) = .ask f := h
    rw [zd3] at h
    cases h
    have hd' : (all[j]?).bind (·.dst) = some d := by rw [← hd]; simp
    have hy : yielded all tmps j = match tmps[d]? with | some (.bool b) => some b | _ => none := by
     unfold yielded
     rw [hd']
     rfl
    have hv := ht j want d hg hd'
    have hev : evA tm (.tmp d) = zaf (tm.get d) undef fun v => v := rfl
    rw [hev] at hv
    have key : (∃ b, tm.get d = some (.bool b)) ∨ ((∀ a b, askB want (tm.get d) a b = b) ∧ (∀ b, zaf (tm.get d) undef (fun v => v) ≠ .bool b) ∧ ∀ i, zaf (tm.get d) undef (fun v => v) ≠ .chan (some i)) ∨ (∀ a b, askB want (tm.get d) a b = .no) := by
     cases hgd : tm.get d with
     | none => exact .inr (.inl ⟨fun a b => rfl, fun b e => (by cases e), fun i e => by cases e⟩)
     | some u => cases u <;> first
      | exact .inl ⟨_, rfl⟩
      | exact .inr (.inl ⟨fun a b => rfl, fun b e => (by cases e), fun i e => by cases e⟩)
      | (rename_i r; cases r <;> first
       | exact .inr (.inl ⟨fun a b => rfl, fun b e => (by cases e), fun i e => by cases e⟩)
       | exact .inr (.inr fun a b => rfl))
    rcases key with ⟨t, ht1⟩ | ⟨h1, h2, h2s⟩ | h1
    · rw [ht1] at hv
      replace hv : VR ρ (.bool t) (tmps.getD d undef) := hv
      have hval : tmps[d]? = some (.bool t) := by
       have h3 : tmps.getD d undef = .bool t := by generalize tmps.getD d undef = z at hv; cases hv; rfl
       rw [Array.getD_eq_getD_getElem?] at h3
       cases hz : tmps[d]? with
       | none => rw [hz] at h3; cases h3
       | some z => rw [hz] at h3; exact congrArg some h3
      rw [hval] at hy
      rw [hy]
      have hf : ∀ a b, askB want (g tm) a b = pick (pick t want (pick want false true)) a b := fun a b => by rw [hgs, ht1]; rfl
      cases t <;> cases want <;> first
       | exact .inl ⟨rfl, hf⟩
       | exact .inr (.inl ⟨rfl, hf⟩)
    · right; left
      refine ⟨?_, fun a b => by show askB want (g tm) a b = b; rw [hgs]; exact h1 a b⟩
      have h3 := zks hv h2 h2s
      have : yielded all tmps j = none := by
       rw [hy]
       cases hz : tmps[d]? with
       | none => rfl
       | some z =>
        have h4 : tmps.getD d undef = z := by rw [Array.getD_eq_getD_getElem?, hz]; rfl
        rw [h4] at h3
        cases z <;> first | rfl | exact absurd rfl (h3 _)
      rw [this]
      rfl
    · exact .inr (.inr fun a b => by show askB want (g tm) a b = _; rw [hgs]; exact h1 a b)
  · cases h
theorem zyr {run : Run} (hrun : zea P G run) {tm : T Value} {hp hp' : Hp} {ρ : Rho} {w : World} {v : Value} {b : Frame} {a : Act} {cs : List Frame} {ops : Array Oper} {i : Nat} {rest : List Nat} {k : List Item} {o : Oper}
 (c : CtxA P G hp ρ w) (hf : ∀ t, Operand.tmp t ∈ o.op.operands → VR ρ (evA tm (.tmp t)) (a.tmps.getD t undef)) (ho : ops[i]? = some o) (hw : Region.wanted o (yielded ops a.tmps) = true) (h : oper P run tm hp (bxOf P G o) = .ok v hp') :
 ∃ v' ρ' w', VR ρ' v v' ∧ Post P G hp hp' ρ ρ' w w' ∧ Steps P (lone (b.atR a (.inRegion ops (i :: rest) :: k)) cs w) (lone (b.atR (a.put o.dst v') (.inRegion ops rest :: k)) cs w') := by
 have fin : ∀ u, (b.atR a (.inRegion ops (i :: rest) :: k)).finish u = b.atR (a.put o.dst u) (.inRegion ops rest :: k) := fun u => by rw [Frame.finish_atR, ho]; rfl
 have ev : ∀ x ∈ o.op.operands, ze7 G x = true → VR ρ (evA tm x) (a.eval x) := by
  intro x hx hok
  cases x with
  | tmp t => exact hf t hx
  | const v => exact zpc hok
  | global g =>
   have hg : g < G.g := by
    have : lt g G.g = true := hok
    simpa using this
   obtain ⟨h1, h2, h3⟩ := c.sat.glob g hg
   have := VR.ptr (ρ := ρ) g 0 h1
   rw [h2, h3] at this
   exact this
  | func f => exact .func _ _ _ _ _ rfl .nil .nil
 cases hb : bxOf P G o with
 | bad => rw [hb] at h; cases h
 | op f =>
  rw [hb] at h
  replace h : f tm hp = .ok v hp' := h
  have hd := zb0 (P := P) (G := G) (o := o) (by rw [hb]; intro e; cases e)
  obtain ⟨h1, h2⟩ := zw1 hb
  have D := zj1 (P := P) (b := b) (k := k) (cs := cs) (w := w) (rest := rest) ho hw hd
  obtain ⟨nx, v', ρ', w', g1, g2, g3, g4⟩ := h2 tm hp v hp' h ρ w _ a.eval (c.ctx _) (fun x hx => ev x hx (h1 x hx)) (Nat.le_refl _)
  have := D.val nx v' w' g1 g2
  rw [fin] at this
  exact ⟨v', ρ', w', g3, g4, .one this⟩
 | call f =>
  rw [hb] at h
  replace h : come P run hp (f tm hp) = .ok v hp' := h
  have hd := zb0 (P := P) (G := G) (o := o) (by rw [hb]; intro e; cases e)
  obtain ⟨h1, _, h2⟩ := zj5 hb
  have D := zj1 (P := P) (b := b) (k := k) (cs := cs) (w := w) (rest := rest) ho hw hd
  have hcr := h2 tm hp ρ w hp.next a.eval (c.ctx _) (fun x hx => ev x hx (h1 x hx)) (fun f => rfl)
  obtain ⟨v', ρ', w', g1, g2, g3⟩ := zhc hrun c hcr D h
  rw [fin] at g3
  exact ⟨v', ρ', w', g1, g2, g3⟩
end Go.Proofs.YtelanmknimapoaaGreatDoor.Sx
/- An executor of closed runs: drawn regions (9): what the executor's way says of names. -/
namespace Go.Proofs.YtelanmknimapoaaGreatDoor.Sx
open Go
variable {P : Program} {G : Env}
def nx (X : Nat → Ent) (p : Nat) : Nat := (X p).hp.next
noncomputable def hdOf (ms : T Nat) (J : Nat → Nat) (X : Nat → Ent) (p : Nat) : List (Nat × Nat) := zb8 (zaz ms (J p)) (X p).ivs (X p).hp.hid
def Touch (X : Nat → Ent) (p m : Nat) : Prop := (X p).dn = true ∧ (m ∈ (X p).q.wr ∨ (nx X p ≤ m ∧ m < nx X (p + 1)))
structure Reg (P : Program) (G : Env) (run : Run) (ops : Array Oper) (sz n : Nat) (ms : T Nat) (J : Nat → Nat) (O : Nat → Oper) (X : Nat → Ent) : Prop where
 op : ∀ p, p < n → ops[J p]? = some (O p)
 inj : ∀ p r, p < n → r < n → J p = J r → p = r
 surj : ∀ i, i < ops.size → ∃ p, p < n ∧ J p = i
 bef : ∀ p r, p < n → r < n → bit (zaz ms (J p)) (J r) = true → r < p
 named : ∀ p r t, p < n → r < n → Operand.tmp t ∈ (O p).op.operands → (O r).dst = some t → r ≠ p ∧ (bit (zaz ms (J p)) (J r) = true ∨ bit (zaz ms (J r)) (J p) = true)
 uniq : ∀ p r t, p < n → r < n → (O p).dst = some t → (O r).dst = some t → p = r
 guard : ∀ p g want, p < n → (O p).guard = some (g, want) → ∃ r, r < n ∧ J r = g ∧ bit (zaz ms (J p)) (J r) = true
 link : ∀ p, p < n → Link (oper P run) sz (stepOf P G ops.toList ms (J p, O p)) (X p) (X (p + 1))
 ivs0 : (X 0).ivs = []
 sv0 : (X 0).sv = []
 tbig : ∀ t, sz ≤ t → evA (X 0).tm (.tmp t) = undef
section
variable {run : Run} {ops : Array Oper} {sz n : Nat} {ms : T Nat} {J : Nat → Nat} {O : Nat → Oper} {X : Nat → Ent}
structure Skipped (ops : Array Oper) (sz : Nat) (o : Oper) (e e' : Ent) : Prop where
 want : ∃ f, zbk ops.toList o.guard = .ask f ∧ ∀ x y, f e.tm x y = y
 tm : ∀ t, evA e'.tm (.tmp t) = if o.dst = some t ∧ t < sz then undef else evA e.tm (.tmp t)
 hp : e'.hp = e.hp
 ivs : e'.ivs = e.ivs
 sv : e'.sv = e.sv
structure Gone (P : Program) (G : Env) (run : Run) (ops : Array Oper) (sz : Nat) (j m : Nat) (o : Oper) (e e' : Ent) : Prop where
 want : zbk ops.toList o.guard = .yes ∨ ∃ f, zbk ops.toList o.guard = .ask f ∧ ∀ x y, f e.tm x y = x
 run : oper P run e.tm ⟨e.hp.h, e.hp.next, zb8 m e.ivs e.hp.hid, [], e.hp.next⟩ (bxOf P G o) = .ok e.v e.q
 seen : e.q.wr = [] ∨ zfx m e.q.wr e.sv = true
 next : e.hp.next ≤ e.q.next
 tm : ∀ t, evA e'.tm (.tmp t) = if o.dst = some t ∧ t < sz then e.v else evA e.tm (.tmp t)
 ivs : e'.ivs = zet j e.q.wr (zkd j e.hp.next e.q.next e.ivs)
 sv : e'.sv = (j, e.hp.next, zb8 m e.ivs e.hp.hid) :: e.sv
 hp : e'.hp = ⟨e.q.h, e.q.next, e.hp.hid, zhn e.hp.lim e.q.wr e.hp.wr, e.hp.lim⟩
theorem Reg.cases (R : Reg P G run ops sz n ms J O X) {p : Nat} (hp : p < n) :
 ((X p).dn = false ∧ Skipped ops sz (O p) (X p) (X (p + 1))) ∨ ((X p).dn = true ∧ Gone P G run ops sz (J p) (zaz ms (J p)) (O p) (X p) (X (p + 1))) := by
 have h := R.link p hp
 unfold stepOf at h
 cases hd : zeo (O p).dst with
 | mk d =>
  simp only at h
  rw [hd] at h
  rcases h with ⟨h1, h2, h3, h4, h5, h6⟩ | ⟨h1, h2, h3, h4, h5, h6, h7, h8, h9⟩
  · exact .inl ⟨h1, h2, ybg hd h3, h4, h5, h6⟩
  · exact .inr ⟨h1, h2, h3, h4, h5, ybg hd h6, h7, h8, h9⟩
theorem Reg.skip (R : Reg P G run ops sz n ms J O X) {p : Nat} (hp : p < n) (h : (X p).dn = false) : Skipped ops sz (O p) (X p) (X (p + 1)) := by
 rcases R.cases hp with ⟨_, g⟩ | ⟨g, _⟩
 · exact g
 · rw [h] at g; cases g
theorem Reg.go (R : Reg P G run ops sz n ms J O X) {p : Nat} (hp : p < n) (h : (X p).dn = true) : Gone P G run ops sz (J p) (zaz ms (J p)) (O p) (X p) (X (p + 1)) := by
 rcases R.cases hp with ⟨g, _⟩ | ⟨_, g⟩
 · rw [h] at g; cases g
 · exact g
theorem Reg.base (R : Reg P G run ops sz n ms J O X) : ∀ p, p ≤ n → (X p).hp.hid = (X 0).hp.hid ∧ (X p).hp.lim = (X 0).hp.lim
 | 0, _ => ⟨rfl, rfl⟩
 | p + 1, h => by
  have ih := R.base p (by omega)
  rcases R.cases (p := p) (by omega) with ⟨_, g⟩ | ⟨_, g⟩
  · rw [g.hp]; exact ih
  · rw [g.hp]; exact ih
theorem Reg.nx_step (R : Reg P G run ops sz n ms J O X) {p : Nat} (hp : p < n) : nx X p ≤ nx X (p + 1) := by
 unfold nx
 rcases R.cases hp with ⟨_, g⟩ | ⟨_, g⟩
 · rw [g.hp]; exact Nat.le_refl _
 · rw [g.hp]; exact g.next
theorem Reg.nx_go (R : Reg P G run ops sz n ms J O X) {p : Nat} (hp : p < n) (h : (X p).dn = true) : nx X (p + 1) = (X p).q.next := by
 unfold nx; rw [(R.go hp h).hp]
theorem Reg.h_go (R : Reg P G run ops sz n ms J O X) {p : Nat} (hp : p < n) (h : (X p).dn = true) : (X (p + 1)).hp.h = (X p).q.h := by rw [(R.go hp h).hp]
theorem Reg.mono (R : Reg P G run ops sz n ms J O X) {p r : Nat} (h : p ≤ r) (hr : r ≤ n) : nx X p ≤ nx X r := by
 induction r with
 | zero => have : p = 0 := by omega
           subst this; exact Nat.le_refl _
 | succ r ih =>
  by_cases e : p = r + 1
  · subst e; exact Nat.le_refl _
  · exact Nat.le_trans (ih (by omega) (by omega)) (R.nx_step (by omega))
theorem Reg.ivs_step (R : Reg P G run ops sz n ms J O X) {p : Nat} (hp : p < n) {x : Nat × Nat × Nat} (h : x ∈ (X p).ivs) : x ∈ (X (p + 1)).ivs := by
 rcases R.cases hp with ⟨_, g⟩ | ⟨_, g⟩
 · rw [g.ivs]; exact h
 · rw [g.ivs, zc4, zg4]; exact .inl (.inl h)
theorem Reg.ivs_mono (R : Reg P G run ops sz n ms J O X) {p r : Nat} (h : p ≤ r) (hr : r ≤ n) {x : Nat × Nat × Nat} (hx : x ∈ (X p).ivs) : x ∈ (X r).ivs := by
 induction r with
 | zero => have : p = 0 := by omega
           subst this; exact hx
 | succ r ih =>
  by_cases e : p = r + 1
  · subst e; exact hx
  · exact R.ivs_step (by omega) (ih (by omega) (by omega))
theorem Reg.sv_mono (R : Reg P G run ops sz n ms J O X) {p r : Nat} (h : p ≤ r) (hr : r ≤ n) {x : Nat × Nat × List (Nat × Nat)} (hx : x ∈ (X p).sv) : x ∈ (X r).sv := by
 induction r with
 | zero => have : p = 0 := by omega
           subst this; exact hx
 | succ r ih =>
  by_cases e : p = r + 1
  · subst e; exact hx
  · have hx := ih (by omega) (by omega)
    rcases R.cases (p := r) (by omega) with ⟨_, g⟩ | ⟨_, g⟩
    · rw [g.sv]; exact hx
    · rw [g.sv]; exact .tail _ hx
theorem Reg.ivs_wf (R : Reg P G run ops sz n ms J O X) : ∀ p, p ≤ n → ∀ i a b, (i, a, b) ∈ (X p).ivs → a ≤ b
 | 0, _, i, a, b, h => by rw [R.ivs0] at h; cases h
 | p + 1, hp, i, a, b, h => by
  rcases R.cases (p := p) (by omega) with ⟨_, g⟩ | ⟨_, g⟩
  · rw [g.ivs] at h; exact R.ivs_wf p (by omega) i a b h
  · rw [g.ivs, zc4, zg4] at h
    rcases h with (h | ⟨_, h⟩) | ⟨k, _, h⟩
    · exact R.ivs_wf p (by omega) i a b h
    · cases h; exact g.next
    · cases h; omega
theorem Reg.sv_in (R : Reg P G run ops sz n ms J O X) {r p : Nat} (h : r < p) (hp : p ≤ n) (hd : (X r).dn = true) : (J r, nx X r, hdOf ms J X r) ∈ (X p).sv := by
 refine R.sv_mono (p := r + 1) (by omega) hp ?_
 rw [(R.go (by omega) hd).sv]
 exact .head _
theorem Reg.touch_hid (R : Reg P G run ops sz n ms J O X) {r p m : Nat} (h : r < p) (hp : p < n) (ht : Touch X r m) (hb : bit (zaz ms (J p)) (J r) = false) : hidden (hdOf ms J X p) m = true := by
 obtain ⟨hd, ht⟩ := ht
 have g := R.go (p := r) (by omega) hd
 have hw := R.ivs_wf p (by omega)
 rcases ht with ht | ⟨h1, h2⟩
 · refine zjm (i := J r) (a := m) (b := m + 1) hb (by omega) _ hw (R.ivs_mono (p := r + 1) (by omega) (by omega) ?_)
   rw [g.ivs, zc4]
   exact .inr ⟨m, ht, rfl⟩
 · refine zjm (i := J r) (a := nx X r) (b := nx X (r + 1)) hb ⟨h1, h2⟩ _ hw (R.ivs_mono (p := r + 1) (by omega) (by omega) ?_)
   rw [g.ivs, zc4, zg4]
   refine .inl (.inr ⟨?_, ?_⟩)
   · rw [R.nx_go (by omega) hd] at h2
     unfold nx at h1
     omega
   · rw [R.nx_go (by omega) hd]; rfl
theorem Reg.hid_hid (R : Reg P G run ops sz n ms J O X) {p m : Nat} (hp : p < n) (h : hidden (X 0).hp.hid m = true) : hidden (hdOf ms J X p) m = true := by
 refine zld ?_ _ (R.ivs_wf p (by omega))
 rw [(R.base p (by omega)).1]; exact h
structure Fact (X : Nat → Ent) (hd : List (Nat × Nat)) (p : Nat) : Prop where
 keep : ∀ m, m < nx X p → m ∉ (X p).q.wr → (X p).q.h.get m = (X p).hp.h.get m
 lt : ∀ m o, (X p).q.h.get m = some o → m < (X p).q.next
 wrv : ∀ m, m ∈ (X p).q.wr → m < nx X p ∧ hidden hd m = false ∧ ∃ o, (X p).hp.h.get m = some o
def Facts (ms : T Nat) (J : Nat → Nat) (X : Nat → Ent) (p : Nat) : Prop := (X p).dn = true → Fact X (hdOf ms J X p) p
theorem Reg.back (R : Reg P G run ops sz n ms J O X) {m a p : Nat} {o : AObj} (ha : a ≤ p) (hp : p ≤ n) (hF : ∀ s, s < p → Facts ms J X s) (hn : ∀ s, a ≤ s → s < p → ¬ Touch X s m) (h : (X p).hp.h.get m = some o) : (X a).hp.h.get m = some o := by
 induction p with
 | zero => have : a = 0 := by omega
           subst this; exact h
 | succ p ih =>
  by_cases e : a = p + 1
  · subst e; exact h
  · refine ih (by omega) (by omega) (fun s hs => hF s (by omega)) (fun s h1 h2 => hn s h1 (by omega)) ?_
    rcases R.cases (p := p) (by omega) with ⟨_, g⟩ | ⟨hd, g⟩
    · rw [g.hp] at h; exact h
    · rw [R.h_go (by omega) hd] at h
      have f := hF p (by omega) hd
      have h1 := f.lt m o h
      have h2 := hn p (by omega) (by omega)
      have h3 : m < nx X p := by
       by_cases h3 : m < nx X p
       · exact h3
       · exact absurd ⟨hd, .inr ⟨by omega, by rw [R.nx_go (by omega) hd]; exact h1⟩⟩ h2
      rw [← f.keep m h3 fun h4 => h2 ⟨hd, .inl h4⟩]; exact h
theorem Reg.lt (R : Reg P G run ops sz n ms J O X) (h0 : ∀ m o, (X 0).hp.h.get m = some o → m < nx X 0) {p : Nat} (hp : p ≤ n) (hF : ∀ s, s < p → Facts ms J X s) {m : Nat} {o : AObj} (h : (X p).hp.h.get m = some o) : m < nx X p := by
 cases p with
 | zero => exact h0 m o h
 | succ p =>
  rcases R.cases (p := p) (by omega) with ⟨_, g⟩ | ⟨hd, g⟩
  · have := R.lt h0 (p := p) (by omega) (fun s hs => hF s (by omega)) (m := m) (o := o) (by rw [g.hp] at h; exact h)
    unfold nx at *; rw [g.hp]; exact this
  · rw [R.h_go (by omega) hd] at h
    rw [R.nx_go (by omega) hd]
    exact (hF p (by omega) hd).lt m o h
theorem zg8 (X : Nat → Ent) (m : Nat) : ∀ p, (∀ s, s < p → ¬ Touch X s m) ∨ ∃ r, r < p ∧ Touch X r m ∧ ∀ s, s < p → Touch X s m → s ≤ r
 | 0 => .inl fun s h => by omega
 | p + 1 => by
  by_cases h : Touch X p m
  · exact .inr ⟨p, by omega, h, fun s hs _ => by omega⟩
  · rcases zg8 X m p with h1 | ⟨r, h1, h2, h3⟩
    · refine .inl fun s hs ht => ?_
      by_cases e : s = p
      · subst e; exact h ht
      · exact h1 s (by omega) ht
    · refine .inr ⟨r, by omega, h2, fun s hs ht => ?_⟩
      by_cases e : s = p
      · subst e; exact absurd ht h
      · exact h3 s (by omega) ht
inductive Mem (X : Nat → Ent) (D : Nat → Prop) (m : Nat) (o : AObj) : Nat → Prop
 | init : (∀ s, D s → ¬ Touch X s m) → (X 0).hp.h.get m = some o → Mem X D m o (nx X 0)
 | last (r : Nat) : D r → Touch X r m → (∀ s, D s → Touch X s m → s ≤ r) → (X (r + 1)).hp.h.get m = some o → Mem X D m o (nx X (r + 1))
structure Ready (n : Nat) (ms : T Nat) (J : Nat → Nat) (D : Nat → Prop) (p : Nat) : Prop where
 lt : p < n
 dlt : ∀ r, D r → r < n
 new : ¬ D p
 pre : ∀ r, r < n → bit (zaz ms (J p)) (J r) = true → D r
 closed : ∀ r s, D r → s < n → bit (zaz ms (J r)) (J s) = true → D s
theorem Reg.not_later (R : Reg P G run ops sz n ms J O X) {D : Nat → Prop} {p : Nat} (rd : Ready n ms J D p) (hd : (X p).dn = true) {m : Nat} (hm : m < nx X p) (hv : hidden (hdOf ms J X p) m = false) {s : Nat} (hs : D s) (hps : p < s) : ¬ Touch X s m := by
 rintro ⟨hds, ht⟩
 have hsn := rd.dlt s hs
 have g := R.go hsn hds
 have h1 := R.mono (p := p) (r := s) (by omega) (by omega)
 rcases ht with ht | ⟨h2, h3⟩
 · have hb : bit (zaz ms (J s)) (J p) = false := by
    cases hb : bit (zaz ms (J s)) (J p) with
    | false => rfl
    | true => exact absurd (rd.closed s p hs rd.lt hb) rd.new
   rcases g.seen with e | hu
   · rw [e] at ht; cases ht
   · rcases zm9 hb hu (R.sv_in hps (by omega) hd) m ht with h | h
     · omega
     · rw [hv] at h; cases h
 · omega
theorem Reg.view (R : Reg P G run ops sz n ms J O X) {D : Nat → Prop} {p : Nat} (rd : Ready n ms J D p) (hF : ∀ s, s < p → Facts ms J X s) (hd : (X p).dn = true) {m : Nat} {o : AObj} (hm : m < nx X p) (hv : hidden (hdOf ms J X p) m = false)
 (h : (X p).hp.h.get m = some o) : hidden (X 0).hp.hid m = false ∧ ∃ N, N ≤ nx X p ∧ Mem X D m o N := by
 have hpn := rd.lt
 have before : ∀ s, s < p → Touch X s m → D s := by
  intro s hs ht
  refine rd.pre s (by omega) ?_
  cases hb : bit (zaz ms (J p)) (J s) with
  | true => rfl
  | false => rw [R.touch_hid hs hpn ht hb] at hv; cases hv
 have upto : ∀ s, D s → Touch X s m → s < p := by
  intro s hs ht
  by_cases h1 : s < p
  · exact h1
  · have : s ≠ p := fun e => rd.new (e ▸ hs)
    exact absurd ht (R.not_later rd hd hm hv hs (by omega))
 refine ⟨?_, ?_⟩
 · cases h1 : hidden (X 0).hp.hid m with
   | false => rfl
   | true => rw [R.hid_hid hpn h1] at hv; cases hv
 · rcases zg8 X m p with h1 | ⟨r, h1, h2, h3⟩
   · exact ⟨nx X 0, R.mono (by omega) (by omega), .init (fun s hs ht => h1 s (upto s hs ht) ht) (R.back (by omega) (by omega) hF (fun s _ hs => h1 s hs) h)⟩
   · refine ⟨nx X (r + 1), R.mono (by omega) (by omega), .last r (before r h1 h2) h2 (fun s hs ht => h3 s (upto s hs ht) ht) ?_⟩
     exact R.back (by omega) (by omega) hF (fun s h4 h5 ht => by have := h3 s h5 ht; omega) h
theorem Reg.is_last (R : Reg P G run ops sz n ms J O X) {D : Nat → Prop} {p : Nat} (rd : Ready n ms J D p) (hF : ∀ s, D s → Facts ms J X s) (hFp : Facts ms J X p) {m : Nat} (ht : Touch X p m) {s : Nat} (hs : D s) (hts : Touch X s m) : s < p := by
 by_cases h1 : s < p
 · exact h1
 · exfalso
   have hne : s ≠ p := fun e => rd.new (e ▸ hs)
   have hps : p < s := by omega
   have hsn := rd.dlt s hs
   have hb : bit (zaz ms (J s)) (J p) = false := by
    cases hb : bit (zaz ms (J s)) (J p) with
    | false => rfl
    | true => exact absurd (rd.closed s p hs rd.lt hb) rd.new
   have hh := R.touch_hid hps hsn ht hb
   obtain ⟨hds, hts⟩ := hts
   rcases hts with h2 | ⟨h2, h3⟩
   · have := (hF s hs hds).wrv m h2
     rw [hh] at this; cases this.2.1
   · have hm : m < nx X (p + 1) := by
      obtain ⟨hdp, h4⟩ := ht
      rcases h4 with h4 | ⟨_, h4⟩
      · have := ((hFp hdp).wrv m h4).1
        have := R.nx_step rd.lt
        omega
      · exact h4
     have := R.mono (p := p + 1) (r := s) (by omega) (by omega)
     omega
end
end Go.Proofs.YtelanmknimapoaaGreatDoor.Sx
/- An executor of closed runs: drawn regions (10): an operation done when it is ready. -/
namespace Go.Proofs.YtelanmknimapoaaGreatDoor.Sx
open Go
variable {P : Program} {G : Env}
def Wr (X : Nat → Ent) (D : Nat → Prop) (m : Nat) : Prop :=
 ((X 0).hp.lim ≤ m ∧ m < nx X 0) ∨ m ∈ (X 0).hp.wr ∨ (m < (X 0).hp.lim ∧ ∃ r, D r ∧ (X r).dn = true ∧ m ∈ (X r).q.wr)
structure Inv (P : Program) (sz : Nat) (O : Nat → Oper) (X : Nat → Ent) (ρ : Rho) (w0 : World) (df : List Deferred) (D : Nat → Prop) (ρD : Rho) (a : Act) (w : World) : Prop where
 le : ρ.Le ρD
 ok : ∀ m, ρD.ok m ↔ ρ.ok m ∨ ∃ r, D r ∧ (X r).dn = true ∧ nx X r ≤ m ∧ m < nx X (r + 1)
 mem : ∀ m o N, hidden (X 0).hp.hid m = false ∨ (X 0).hp.lim ≤ m → Mem X D m o N → ρD.ok m ∧ ρD.blk m < w.heap.size ∧ m < N ∧ objSat P (ρD.cut N) w m o
 inj : ∀ m m' o o' N N', hidden (X 0).hp.hid m = false ∨ (X 0).hp.lim ≤ m → hidden (X 0).hp.hid m' = false ∨ (X 0).hp.lim ≤ m' → Mem X D m o N → Mem X D m' o' N' → ρD.blk m = ρD.blk m' → m = m'
 tsz : a.tmps.size = sz
 tm1 : ∀ t r, D r → (O r).dst = some t → VR (ρD.cut (nx X (r + 1))) (evA (X (r + 1)).tm (.tmp t)) (a.tmps.getD t undef)
 tm0 : ∀ t, (∀ r, D r → (O r).dst ≠ some t) → VR (ρD.cut (nx X 0)) (evA (X 0).tm (.tmp t)) (a.tmps.getD t undef)
 df : a.defers = df
 size : w0.heap.size ≤ w.heap.size
 frame : ∀ b, b < w0.heap.size → (∀ m, ρ.ok m → Wr X D m → ρ.blk m ≠ b) → w.heap[b]? = w0.heap[b]?
 fresh : ∀ r m, D r → (X r).dn = true → nx X r ≤ m → m < nx X (r + 1) → w0.heap.size ≤ ρD.blk m ∨ ∃ m', ρ.ok m' ∧ Wr X D m' ∧ ρD.blk m = ρ.blk m'
 os : w.os = w0.os
 tape : w.tape = w0.tape
 output : w.output = w0.output
section
variable {run : Run} {ops : Array Oper} {sz n : Nat} {ms : T Nat} {J : Nat → Nat} {O : Nat → Oper} {X : Nat → Ent}
theorem Wr.mono {D D' : Nat → Prop} (h : ∀ r, D r → D' r) {m : Nat} (hw : Wr X D m) : Wr X D' m :=
 hw.imp id (·.imp id fun ⟨h1, r, h2, h3⟩ => ⟨h1, r, h r h2, h3⟩)
theorem zq6 {a : Act} {dst : Option Tmp} {v : Value} (t : Nat) : (a.put dst v).tmps.getD t undef = if dst = some t ∧ t < a.tmps.size then v else a.tmps.getD t undef := by
 cases dst with
 | none => simp [Act.put]
 | some d =>
  simp only [Act.put, Array.getD_eq_getD_getElem?, Array.getElem?_setIfInBounds]
  by_cases e : d = t
  · subst e
    by_cases h : d < a.tmps.size
    · simp [h]
    · rw [if_pos rfl, if_neg h, if_neg (fun x => h x.2)]
      simp [h]
  · rw [if_neg e, if_neg (fun x => e (Option.some.inj x.1))]
theorem put_size {a : Act} {dst : Option Tmp} {v : Value} : (a.put dst v).tmps.size = a.tmps.size := by
 cases dst <;> simp [Act.put]
theorem put_defers {a : Act} {dst : Option Tmp} {v : Value} : (a.put dst v).defers = a.defers := by
 cases dst <;> rfl
theorem Reg.tm_back (R : Reg P G run ops sz n ms J O X) {t a p : Nat} (ha : a ≤ p) (hp : p ≤ n) (hn : ∀ s, a ≤ s → s < p → (O s).dst ≠ some t) : evA (X p).tm (.tmp t) = evA (X a).tm (.tmp t) := by
 induction p with
 | zero => have : a = 0 := by omega
           subst this; rfl
 | succ p ih =>
  by_cases e : a = p + 1
  · subst e; rfl
  · rw [← ih (by omega) (by omega) fun s h1 h2 => hn s h1 (by omega)]
    have hne := hn p (by omega) (by omega)
    rcases R.cases (p := p) (by omega) with ⟨_, g⟩ | ⟨_, g⟩
    · rw [g.tm, if_neg fun h => hne h.1]
    · rw [g.tm, if_neg fun h => hne h.1]
theorem Reg.big (R : Reg P G run ops sz n ms J O X) {t : Nat} (ht : sz ≤ t) : ∀ p, p ≤ n → evA (X p).tm (.tmp t) = undef
 | 0, _ => R.tbig t ht
 | p + 1, hp => by
  rcases R.cases (p := p) (by omega) with ⟨_, g⟩ | ⟨_, g⟩
  · rw [g.tm, if_neg fun h => absurd h.2 (Nat.not_lt.2 ht)]; exact R.big ht p (by omega)
  · rw [g.tm, if_neg fun h => absurd h.2 (Nat.not_lt.2 ht)]; exact R.big ht p (by omega)
theorem zmj {a : Array Value} {t : Nat} (h : a.size ≤ t) : a.getD t undef = undef := by
 rw [Array.getD_eq_getD_getElem?, Array.getElem?_eq_none h]; rfl
variable {ρ : Rho} {w0 : World} {df : List Deferred} {D : Nat → Prop} {ρD : Rho} {a : Act} {w : World}
theorem Inv.tmp (R : Reg P G run ops sz n ms J O X) {p : Nat} (rd : Ready n ms J D p) (I : Inv P sz O X ρ w0 df D ρD a w) {t : Nat}
 (hn : ∀ r, r < n → (O r).dst = some t → r ≠ p ∧ (bit (zaz ms (J p)) (J r) = true ∨ bit (zaz ms (J r)) (J p) = true)) :
 VR (ρD.cut (nx X p)) (evA (X p).tm (.tmp t)) (a.tmps.getD t undef) := by
 have hpn := rd.lt
 by_cases h : ∃ r, r < n ∧ (O r).dst = some t
 · obtain ⟨r, hr, ht⟩ := h
   have only : ∀ s, s < n → s ≠ r → (O s).dst ≠ some t := fun s hs hne e => hne (R.uniq s r t hs hr e ht)
   obtain ⟨hne, hb | hb⟩ := hn r hr ht
   · have hrp := R.bef p r hpn hr hb
     rw [R.tm_back (a := r + 1) (by omega) (by omega) fun s h1 h2 => only s (by omega) (by omega)]
     exact (I.tm1 t r (rd.pre r hr hb) ht).mono (Rho.cut_mono (.refl _) (R.mono (by omega) (by omega)))
   · have hpr := R.bef r p hr hpn hb
     rw [R.tm_back (a := 0) (by omega) (by omega) fun s h1 h2 => only s (by omega) (by omega)]
     refine (I.tm0 t fun s hs e => ?_).mono (Rho.cut_mono (.refl _) (R.mono (by omega) (by omega)))
     have : s = r := R.uniq s r t (rd.dlt s hs) hr e ht
     subst this
     exact rd.new (rd.closed s p hs hpn hb)
 · have only : ∀ s, s < n → (O s).dst ≠ some t := fun s hs e => h ⟨s, hs, e⟩
   rw [R.tm_back (a := 0) (by omega) (by omega) fun s h1 h2 => only s (by omega)]
   exact (I.tm0 t fun s hs => only s (rd.dlt s hs)).mono (Rho.cut_mono (.refl _) (R.mono (by omega) (by omega)))
theorem Inv.skip (R : Reg P G run ops sz n ms J O X) {p : Nat} (rd : Ready n ms J D p) (I : Inv P sz O X ρ w0 df D ρD a w) (hd : (X p).dn = false) : Inv P sz O X ρ w0 df (fun s => D s ∨ s = p) ρD (a.put (O p).dst undef) w := by
 have hpn := rd.lt
 have g := R.skip hpn hd
 have noT : ∀ m, ¬ Touch X p m := fun m h => by have := h.1; rw [hd] at this; cases this
 have memD : ∀ m o N, Mem X (fun s => D s ∨ s = p) m o N → Mem X D m o N := by
  intro m o N h
  cases h with
  | init h1 h2 => exact .init (fun s hs => h1 s (.inl hs)) h2
  | last r h1 h2 h3 h4 =>
   rcases h1 with h1 | rfl
   · exact .last r h1 h2 (fun s hs => h3 s (.inl hs)) h4
   · exact absurd h2 (noT m)
 have hp1 : ∀ r, (D r ∨ r = p) ∧ (X r).dn = true → D r := by
  rintro r ⟨h1 | rfl, h2⟩
  · exact h1
  · rw [hd] at h2; cases h2
 have wrD : ∀ m, Wr X D m → Wr X (fun s => D s ∨ s = p) m := fun m h => h.mono fun r h => .inl h
 refine ⟨I.le, fun m => ?_, fun m o N h1 h2 => I.mem m o N h1 (memD m o N h2), fun m m' o o' N N' h1 h2 h3 h4 => I.inj m m' o o' N N' h1 h2 (memD _ _ _ h3) (memD _ _ _ h4), by rw [put_size]; exact I.tsz,
  fun t r hr ht => ?_, fun t ht => ?_, by rw [put_defers]; exact I.df, I.size, fun b h1 h2 => I.frame b h1 fun m h3 h4 => h2 m h3 (wrD m h4), fun r m h1 h2 h3 h4 => ?_, I.os, I.tape, I.output⟩
 · rw [I.ok]
   refine or_congr Iff.rfl ⟨fun ⟨r, h1, h2⟩ => ⟨r, .inl h1, h2⟩, fun ⟨r, h1, h2⟩ => ⟨r, hp1 r ⟨h1, h2.1⟩, h2⟩⟩
 · rw [zq6, I.tsz]
   rcases hr with hr | rfl
   · have : (O p).dst ≠ some t := fun e => rd.new (R.uniq r p t (rd.dlt r hr) hpn ht e ▸ hr)
     rw [if_neg fun h => this h.1]
     exact I.tm1 t r hr ht
   · rw [g.tm]
     by_cases h : t < sz
     · rw [if_pos ⟨ht, h⟩, if_pos ⟨ht, h⟩]; exact VR.undef
     · rw [if_neg fun x => h x.2, if_neg fun x => h x.2]
       rw [R.big (t := t) (Nat.le_of_not_lt h) r (Nat.le_of_lt hpn), zmj (by rw [I.tsz]; exact Nat.le_of_not_lt h)]; exact VR.undef
 · rw [zq6, if_neg fun h => ht p (.inr rfl) h.1]
   exact I.tm0 t fun r hr => ht r (.inl hr)
 · rcases I.fresh r m (hp1 r ⟨h1, h2⟩) h2 h3 h4 with h | ⟨m', h5, h6, h7⟩
   · exact .inl h
   · exact .inr ⟨m', h5, wrD m' h6, h7⟩
theorem Inv.go (R : Reg P G run ops sz n ms J O X) {p : Nat} (rd : Ready n ms J D p) (I : Inv P sz O X ρ w0 df D ρD a w) (hd : (X p).dn = true) (hF : ∀ s, s < p → Facts ms J X s) (hFD : ∀ s, D s → Facts ms J X s)
 (h0 : ∀ m, ρ.ok m → m < nx X 0) {v' : Value} {ρ' : Rho} {w1 : World} (hv : VR ρ' (X p).v v')
 (hp : Post P G ⟨(X p).hp.h, (X p).hp.next, hdOf ms J X p, [], (X p).hp.next⟩ (X p).q (ρD.cut (nx X p)) ρ' w w1) :
 Facts ms J X p ∧ ∃ ρ1, Inv P sz O X ρ w0 df (fun s => D s ∨ s = p) ρ1 (a.put (O p).dst v') w1 := by
 have hpn := rd.lt
 have g := R.go hpn hd
 have hnx := R.nx_step hpn
 have hnq := R.nx_go hpn hd
 have visE : ∀ m o, Hp.vis ⟨(X p).hp.h, (X p).hp.next, hdOf ms J X p, [], (X p).hp.next⟩ m = some o → m < nx X p → hidden (hdOf ms J X p) m = false ∧ (X p).hp.h.get m = some o := by
  intro m o h hm
  obtain ⟨h1, h2⟩ := Hp.vis_some h
  refine ⟨?_, h2⟩
  unfold Hp.no at h1
  have : Nat.ble (X p).hp.next m = false := by
   cases hb : Nat.ble (X p).hp.next m with
   | false => rfl
   | true => have := Nat.le_of_ble_eq_true hb; unfold nx at hm; omega
  rw [this] at h1
  simpa using h1
 -- what it says of the executor
 have hFp : Facts ms J X p := fun _ => by
  refine ⟨fun m h1 h2 => hp.keep m h1 h2, fun m o h => hp.sat.lt m o h, fun m h => ?_⟩
  rcases hp.wrlt m h with h | ⟨h1, o, h2⟩
  · cases h
  · obtain ⟨h3, h4⟩ := visE m o h2 h1
    exact ⟨h1, h3, o, h4⟩
 refine ⟨hFp, ?_⟩
 have F := hFp hd
 -- the new renaming
 let new : Nat → Prop := fun m => nx X p ≤ m ∧ m < nx X (p + 1)
 let dec : ∀ m, Decidable (new m) := fun m => inferInstanceAs (Decidable (nx X p ≤ m ∧ m < nx X (p + 1)))
 let ρ1 : Rho := { ok := fun m => ρD.ok m ∨ new m, blk := fun m => if nx X p ≤ m ∧ m < nx X (p + 1) then ρ'.blk m else ρD.blk m, sh := fun m => if nx X p ≤ m ∧ m < nx X (p + 1) then ρ'.sh m else ρD.sh m,
                   esz := fun m => if nx X p ≤ m ∧ m < nx X (p + 1) then ρ'.esz m else ρD.esz m, clen := fun m => if nx X p ≤ m ∧ m < nx X (p + 1) then ρ'.clen m else ρD.clen m,
                   sym := ρD.sym, one := ρD.one, obj := fun m => if nx X p ≤ m ∧ m < nx X (p + 1) then ρ'.obj m else ρD.obj m }
 have old : ∀ m, ρD.ok m → ¬ (nx X p ≤ m ∧ m < nx X (p + 1)) := by
  intro m hm h
  rcases (I.ok m).1 hm with h1 | ⟨r, h1, h2, h3, h4⟩
  · have := h0 m h1
    have := R.mono (p := 0) (r := p) (by omega) (by omega)
    omega
  · have hrn := rd.dlt r h1
    have hne : r ≠ p := fun e => rd.new (e ▸ h1)
    by_cases hlt : r < p
    · have := R.mono (p := r + 1) (r := p) (by omega) (by omega)
      omega
    · have := R.mono (p := p + 1) (r := r) (by omega) (by omega)
      omega
 have le1 : ρD.Le ρ1 := ⟨fun m h => .inl h, fun m h => if_neg (old m h), fun m h => if_neg (old m h), fun m h => if_neg (old m h), fun m h => if_neg (old m h), rfl, fun m h => if_neg (old m h)⟩
 have new' : ∀ m, ρ'.ok m → (ρD.ok m ∧ m < nx X p) ∨ (nx X p ≤ m ∧ m < nx X (p + 1)) := by
  intro m hm
  rcases hp.new m hm with h | h
  · exact .inl h
  · rw [hnq]; exact .inr h
 have lt1 : ∀ m, ρ'.ok m → m < nx X (p + 1) := fun m hm => by
  rcases new' m hm with h | h <;> omega
 have le2 : ρ'.Le (ρ1.cut (nx X (p + 1))) := by
  have ex : ∀ m, ρ'.ok m → ¬ (nx X p ≤ m ∧ m < nx X (p + 1)) → (ρD.cut (nx X p)).ok m := fun m hm h => by
   rcases new' m hm with h1 | h1
   · exact h1
   · exact absurd h1 h
  refine ⟨fun m hm => ⟨?_, lt1 m hm⟩, fun m hm => ?_, fun m hm => ?_, fun m hm => ?_, fun m hm => ?_, hp.ext.sym.symm, fun m hm => ?_⟩
  · rcases new' m hm with h | h
    · exact .inl h.1
    · exact .inr h
  · show (if nx X p ≤ m ∧ m < nx X (p + 1) then ρ'.blk m else ρD.blk m) = _
    by_cases h : nx X p ≤ m ∧ m < nx X (p + 1)
    · rw [if_pos h]
    · rw [if_neg h]; exact (hp.ext.blk m (ex m hm h)).symm
  · show (if nx X p ≤ m ∧ m < nx X (p + 1) then ρ'.sh m else ρD.sh m) = _
    by_cases h : nx X p ≤ m ∧ m < nx X (p + 1)
    · rw [if_pos h]
    · rw [if_neg h]; exact (hp.ext.sh m (ex m hm h)).symm
  · show (if nx X p ≤ m ∧ m < nx X (p + 1) then ρ'.esz m else ρD.esz m) = _
    by_cases h : nx X p ≤ m ∧ m < nx X (p + 1)
    · rw [if_pos h]
    · rw [if_neg h]; exact (hp.ext.esz m (ex m hm h)).symm
  · show (if nx X p ≤ m ∧ m < nx X (p + 1) then ρ'.clen m else ρD.clen m) = _
    by_cases h : nx X p ≤ m ∧ m < nx X (p + 1)
    · rw [if_pos h]
    · rw [if_neg h]; exact (hp.ext.clen m (ex m hm h)).symm
  · show (if nx X p ≤ m ∧ m < nx X (p + 1) then ρ'.obj m else ρD.obj m) = _
    by_cases h : nx X p ≤ m ∧ m < nx X (p + 1)
    · rw [if_pos h]
    · rw [if_neg h]; exact (hp.ext.obj m (ex m hm h)).symm
 have blk1 : ∀ m, ρ'.ok m → ρ1.blk m = ρ'.blk m := fun m hm => le2.blk m hm
 have cutle : ∀ N, (ρD.cut N).Le (ρ1.cut N) := fun N => Rho.cut_mono le1 (Nat.le_refl _)
 -- what is written was there
 have wrote : ∀ m, m ∈ (X p).q.wr → (hidden (X 0).hp.hid m = false ∨ (X 0).hp.lim ≤ m) ∧ m < nx X p ∧ ∃ o N, Mem X D m o N := by
  intro m hm
  obtain ⟨h1, h2, o, h3⟩ := F.wrv m hm
  obtain ⟨h4, N, _, h5⟩ := R.view rd hF hd h1 h2 h3
  exact ⟨.inl h4, h1, o, N, h5⟩
 -- a name that p has not touched
 have keepw : ∀ m o N, (hidden (X 0).hp.hid m = false ∨ (X 0).hp.lim ≤ m) → Mem X D m o N → ¬ Touch X p m → w1.heap[ρD.blk m]? = w.heap[ρD.blk m]? := by
  intro m o N hh hm ht
  obtain ⟨k1, k2, _, _⟩ := I.mem m o N hh hm
  refine hp.frame _ k2 fun m' h1 h2 e => ?_
  rcases h2 with ⟨h2, h3⟩ | h2
  · exact absurd h3 (Nat.not_lt.2 h2)
  · obtain ⟨h3, _, o', N', h4⟩ := wrote m' h2
    have := I.inj m' m o' o N' N h3 hh h4 hm e
    subst this
    exact ht ⟨hd, .inl h2⟩
 -- the memory, divided
 have memD : ∀ m o N, Mem X (fun s => D s ∨ s = p) m o N → (Touch X p m ∧ N = nx X (p + 1) ∧ (X p).q.h.get m = some o) ∨ (¬ Touch X p m ∧ Mem X D m o N) := by
  intro m o N h
  cases h with
  | init h1 h2 => exact .inr ⟨h1 p (.inr rfl), .init (fun s hs => h1 s (.inl hs)) h2⟩
  | last r h1 h2 h3 h4 =>
   by_cases ht : Touch X p m
   · have hpr := h3 p (.inr rfl) ht
     rcases h1 with h1 | rfl
     · have := R.is_last rd hFD hFp ht h1 h2
       omega
     · rw [R.h_go hpn hd] at h4
       exact .inl ⟨h2, rfl, h4⟩
   · rcases h1 with h1 | rfl
     · exact .inr ⟨ht, .last r h1 h2 (fun s hs => h3 s (.inl hs)) h4⟩
     · exact absurd h2 ht
 have seenQ : ∀ m o, Touch X p m → (X p).q.h.get m = some o → (X p).q.vis m = some o := by
  intro m o ht ho
  have e1 : (X p).q.hid = hdOf ms J X p := hp.hid
  have e2 : (X p).q.lim = (X p).hp.next := hp.limE
  rw [Hp.vis_eq]
  have : (X p).q.no m = false := by
   unfold Hp.no
   rw [e1, e2]
   rcases ht.2 with h | ⟨h, _⟩
   · rw [(F.wrv m h).2.1]; simp
   · have : Nat.ble (X p).hp.next m = true := Nat.ble_eq_true_of_le h
     rw [this]; rfl
  rw [this]
  exact ho
 have wrD : ∀ m, Wr X D m → Wr X (fun s => D s ∨ s = p) m := fun m h => h.mono fun r h => .inl h
 -- names of the region's head that p has written
 have wrP : ∀ m, ρ.ok m → m ∈ (X p).q.wr → Wr X (fun s => D s ∨ s = p) m := by
  intro m h1 h2
  by_cases h : m < (X 0).hp.lim
  · exact .inr (.inr ⟨h, p, .inr rfl, hd, h2⟩)
  · exact .inl ⟨by omega, h0 m h1⟩
 -- where what p has written lay at the head
 have wasP : ∀ m, ρD.ok m → m ∈ (X p).q.wr → w0.heap.size ≤ ρD.blk m ∨ ∃ m', ρ.ok m' ∧ Wr X (fun s => D s ∨ s = p) m' ∧ ρD.blk m = ρ.blk m' := by
  intro m h1 h2
  rcases (I.ok m).1 h1 with h3 | ⟨r, h3, h4, h5, h6⟩
  · exact .inr ⟨m, h3, wrP m h3 h2, I.le.blk m h3⟩
  · rcases I.fresh r m h3 h4 h5 h6 with h | ⟨m', h7, h8, h9⟩
    · exact .inl h
    · exact .inr ⟨m', h7, wrD m' h8, h9⟩
 refine ⟨ρ1, I.le.trans le1, fun m => ?_, fun m o N h1 h2 => ?_, fun m m' o o' N N' h1 h2 h3 h4 e => ?_, by rw [put_size]; exact I.tsz, fun t r hr ht => ?_, fun t ht => ?_, by rw [put_defers]; exact I.df, Nat.le_trans I.size hp.size,
  fun b h1 h2 => ?_, fun r m h1 h2 h3 h4 => ?_, hp.os.trans I.os, hp.tape.trans I.tape, hp.output.trans I.output⟩
 · show ρD.ok m ∨ new m ↔ _
   rw [I.ok]
   constructor
   · rintro ((h | ⟨r, h1, h2⟩) | h)
     · exact .inl h
     · exact .inr ⟨r, .inl h1, h2⟩
     · exact .inr ⟨p, .inr rfl, hd, h⟩
   · rintro (h | ⟨r, h1 | rfl, h2⟩)
     · exact .inl (.inl h)
     · exact .inl (.inr ⟨r, h1, h2⟩)
     · exact .inr h2.2
 · rcases memD m o N h2 with ⟨ht, rfl, ho⟩ | ⟨ht, hm⟩
   · obtain ⟨k1, k2, k3⟩ := hp.sat.vis m o (seenQ m o ht ho)
     refine ⟨(le2.ok m k1).1, by rw [blk1 m k1]; exact k2, lt1 m k1, k3.mono k1 le2 rfl⟩
   · obtain ⟨k1, k2, k3, k4⟩ := I.mem m o N h1 hm
     refine ⟨le1.ok m k1, by rw [le1.blk m k1]; exact Nat.lt_of_lt_of_le k2 hp.size, k3, k4.mono ⟨k1, k3⟩ (cutle N) (keepw m o N h1 hm ht)⟩
 · -- a name that p has made lies on none of the old ones
   have cross : ∀ m m' o o' N', Touch X p m → (X p).q.h.get m = some o → (hidden (X 0).hp.hid m' = false ∨ (X 0).hp.lim ≤ m') → ¬ Touch X p m' → Mem X D m' o' N' → ρ1.blk m = ρ1.blk m' → False := by
    intro m m' o o' N' ht ho hh' ht' hm' e
    obtain ⟨k1, k2, _, _⟩ := I.mem m' o' N' hh' hm'
    obtain ⟨j1, _, _⟩ := hp.sat.vis m o (seenQ m o ht ho)
    rw [blk1 m j1, le1.blk m' k1] at e
    have eqwr : ∀ x, x ∈ (X p).q.wr → ρD.blk x = ρD.blk m' → False := by
     intro x hx ex
     obtain ⟨h3, _, o2, N2, h4⟩ := wrote x hx
     have := I.inj x m' o2 o' N2 N' h3 hh' h4 hm' ex
     subst this
     exact ht' ⟨hd, .inl hx⟩
    rcases ht.2 with h | ⟨h5, h6⟩
    · rcases new' m j1 with h7 | h7
      · have := hp.ext.blk m h7
        rw [this] at e
        exact eqwr m h e
      · have := (F.wrv m h).1; omega
    · rw [hnq] at h6
      rcases hp.fresh m h5 h6 with h7 | ⟨x, h7, h8, h9⟩
      · omega
      · rcases h8 with ⟨h8, h10⟩ | h8
        · exact absurd h10 (Nat.not_lt.2 h8)
        · rw [h9] at e; exact eqwr x h8 e
   rcases memD m o N h3 with ⟨ht, _, ho⟩ | ⟨ht, hm⟩ <;> rcases memD m' o' N' h4 with ⟨ht', _, ho'⟩ | ⟨ht', hm'⟩
   · have v1 := seenQ m o ht ho
     have v2 := seenQ m' o' ht' ho'
     obtain ⟨j1, _, _⟩ := hp.sat.vis m o v1
     obtain ⟨j2, _, _⟩ := hp.sat.vis m' o' v2
     rw [blk1 m j1, blk1 m' j2] at e
     exact hp.sat.inj m m' o o' v1 v2 e
   · exact (cross m m' o o' N' ht ho h2 ht' hm' e).elim
   · exact (cross m' m o' o N ht' ho' h1 ht hm e.symm).elim
   · obtain ⟨j1, _⟩ := I.mem m o N h1 hm
     obtain ⟨j2, _⟩ := I.mem m' o' N' h2 hm'
     rw [le1.blk m j1, le1.blk m' j2] at e
     exact I.inj m m' o o' N N' h1 h2 hm hm' e
 · rw [zq6, I.tsz]
   rcases hr with hr | rfl
   · have : (O p).dst ≠ some t := fun e => rd.new (R.uniq r p t (rd.dlt r hr) hpn ht e ▸ hr)
     rw [if_neg fun h => this h.1]
     exact (I.tm1 t r hr ht).mono (cutle _)
   · rw [g.tm]
     by_cases h : t < sz
     · rw [if_pos ⟨ht, h⟩, if_pos ⟨ht, h⟩]; exact hv.mono le2
     · rw [if_neg fun x => h x.2, if_neg fun x => h x.2]
       rw [R.big (t := t) (Nat.le_of_not_lt h) r (Nat.le_of_lt hpn), zmj (by rw [I.tsz]; exact Nat.le_of_not_lt h)]; exact VR.undef
 · rw [zq6, if_neg fun h => ht p (.inr rfl) h.1]
   exact (I.tm0 t fun r hr => ht r (.inl hr)).mono (cutle _)
 · have e1 : w.heap[b]? = w0.heap[b]? := I.frame b h1 fun m h3 h4 => h2 m h3 (wrD m h4)
   rw [← e1]
   refine hp.frame b (Nat.lt_of_lt_of_le h1 I.size) fun m h3 h4 e => ?_
   rcases h4 with ⟨h4, h5⟩ | h4
   · exact absurd h5 (Nat.not_lt.2 h4)
   · rcases wasP m h3.1 h4 with h5 | ⟨m', h5, h6, h7⟩
     · have : ρD.blk m = b := e
       omega
     · exact h2 m' h5 h6 (h7.symm.trans e)
 · rcases h1 with h1 | rfl
   · have hok : ρD.ok m := (I.ok m).2 (.inr ⟨r, h1, h2, h3, h4⟩)
     rw [le1.blk m hok]
     rcases I.fresh r m h1 h2 h3 h4 with h | ⟨m', h5, h6, h7⟩
     · exact .inl h
     · exact .inr ⟨m', h5, wrD m' h6, h7⟩
   · have hb : ρ1.blk m = ρ'.blk m := if_pos ⟨h3, h4⟩
     rw [hb]
     rw [hnq] at h4
     rcases hp.fresh m h3 h4 with h7 | ⟨x, h7, h8, h9⟩
     · exact .inl (Nat.le_trans I.size h7)
     · rcases h8 with ⟨h8, h10⟩ | h8
       · exact absurd h10 (Nat.not_lt.2 h8)
       · rw [h9]
         exact wasP x h7.1 h8
end
end Go.Proofs.YtelanmknimapoaaGreatDoor.Sx
/- An executor of closed runs: drawn regions (11): a region, walked in whatever order. -/
namespace Go.Proofs.YtelanmknimapoaaGreatDoor.Sx
open Go
variable {P : Program} {G : Env}
section
variable {run : Run} {ops : Array Oper} {sz n : Nat} {ms : T Nat} {J : Nat → Nat} {O : Nat → Oper} {X : Nat → Ent}
variable {ρ : Rho} {w0 : World} {df : List Deferred} {D : Nat → Prop} {ρD : Rho} {a : Act} {w : World}
theorem hp_no {hp : Hp} {m : Nat} : hp.no m = false ↔ (hidden hp.hid m = false ∨ hp.lim ≤ m) := by
 unfold Hp.no
 cases h : Nat.ble hp.lim m with
 | true =>
  have := Nat.le_of_ble_eq_true h
  simp [this]
 | false =>
  have : ¬ hp.lim ≤ m := fun h' => by rw [Nat.ble_eq_true_of_le h'] at h; cases h
  simp [this]
theorem zoe (c : CtxA P G (X 0).hp ρ w0) : ∀ m, ρ.ok m → m < nx X 0 := fun m h => by
 by_cases h' : m < nx X 0
 · exact h'
 · exact absurd h (c.fresh m (by unfold nx at h'; omega))
theorem Rho.Le.cut {ρ ρ' : Rho} (h : ρ.Le ρ') {N M : Nat} (hn : ∀ m, ρ.ok m → m < N ∧ N ≤ M) : ρ.Le (ρ'.cut M) :=
 ⟨fun m hm => ⟨h.ok m hm, Nat.lt_of_lt_of_le (hn m hm).1 (hn m hm).2⟩, h.blk, h.sh, h.esz, h.clen, h.sym, h.obj⟩
theorem Inv.ctx (R : Reg P G run ops sz n ms J O X) {p : Nat} (rd : Ready n ms J D p) (I : Inv P sz O X ρ w0 df D ρD a w) (hd : (X p).dn = true) (hF : ∀ s, s < p → Facts ms J X s) (c : CtxA P G (X 0).hp ρ w0) :
 CtxA P G ⟨(X p).hp.h, (X p).hp.next, hdOf ms J X p, [], (X p).hp.next⟩ (ρD.cut (nx X p)) w := by
 have hpn := rd.lt
 have hlt : ∀ {m o}, (X p).hp.h.get m = some o → m < nx X p := fun h => R.lt (fun m o h => c.sat.lt m o h) (by omega) hF h
 have hvis : ∀ m o, Hp.vis ⟨(X p).hp.h, (X p).hp.next, hdOf ms J X p, [], (X p).hp.next⟩ m = some o → hidden (X 0).hp.hid m = false ∧ ∃ N, N ≤ nx X p ∧ Mem X D m o N := by
  intro m o h
  obtain ⟨h1, h2⟩ := Hp.vis_some h
  replace h2 : (X p).hp.h.get m = some o := h2
  have hm := hlt h2
  rw [hp_no] at h1
  rcases h1 with h1 | h1
  · exact R.view rd hF hd hm h1 h2
  · exact absurd hm (Nat.not_lt.2 h1)
 have need : ∀ m ∈ G.need, (ρD.cut (nx X p)).ok m := fun m hm => by
  have h1 := c.sat.needok m hm
  exact ⟨I.le.ok m h1, Nat.lt_of_lt_of_le (zoe c m h1) (R.mono (p := 0) (r := p) (by omega) (by omega))⟩
 refine ⟨⟨fun m o h => ?_, fun m m' o o' h h' e => ?_, fun m o h => hlt h, Nat.le_refl _, fun g hg => ?_, need, c.sat.known.mono (I.le.cut (fun m hm => ⟨zoe c m hm, R.mono (p := 0) (r := p) (by omega) (by omega)⟩)) c.sat.needok⟩, fun m hm h => absurd h.2 (Nat.not_lt.2 hm), c.known.mono (ρ' := ρD.cut (nx X p)) (I.le.cut (fun m hm => ⟨zoe c m hm, R.mono (p := 0) (r := p) (by omega) (by omega)⟩)) c.sat.needok⟩
 · obtain ⟨h1, N, h2, h3⟩ := hvis m o h
   obtain ⟨k1, k2, k3, k4⟩ := I.mem m o N (.inl h1) h3
   exact ⟨⟨k1, by omega⟩, k2, k4.mono ⟨k1, k3⟩ (Rho.cut_mono (.refl _) h2) rfl⟩
 · obtain ⟨h1, N, h2, h3⟩ := hvis m o h
   obtain ⟨h1', N', h2', h3'⟩ := hvis m' o' h'
   exact I.inj m m' o o' N N' (.inl h1) (.inl h1') h3 h3' e
 · obtain ⟨h1, h2, h3⟩ := c.sat.glob g hg
   have : g < nx X 0 := by
    by_cases h : g < nx X 0
    · exact h
    · exact absurd h1 (c.fresh g (by unfold nx at h; omega))
   have := R.mono (p := 0) (r := p) (by omega) (by omega)
   exact ⟨⟨I.le.ok g h1, by omega⟩, by show ρD.blk g = g; rw [I.le.blk g h1]; exact h2, by show ρD.sh g = 0; rw [I.le.sh g h1]; exact h3⟩
theorem Inv.step (hrun : zea P G run) (R : Reg P G run ops sz n ms J O X) {p : Nat} (rd : Ready n ms J D p) (I : Inv P sz O X ρ w0 df D ρD a w) (hF : ∀ s, s < p → Facts ms J X s) (hFD : ∀ s, D s → Facts ms J X s)
 (c : CtxA P G (X 0).hp ρ w0) {b : Frame} {cs : List Frame} {k' : List Item} {rest : List Nat} :
 Facts ms J X p ∧ ∃ ρ1 a1 w1, Inv P sz O X ρ w0 df (fun s => D s ∨ s = p) ρ1 a1 w1 ∧
  Steps P (lone (b.atR a (.inRegion ops (J p :: rest) :: k')) cs w) (lone (b.atR a1 (.inRegion ops rest :: k')) cs w1) := by
 have hpn := rd.lt
 have ho := R.op p hpn
 have hguard : ∀ j want d, (O p).guard = some (j, want) → (ops[j]?).bind (·.dst) = some d → VR (ρD.cut (nx X p)) (evA (X p).tm (.tmp d)) (a.tmps.getD d undef) := by
  intro j want d h1 h2
  obtain ⟨r, hr, rfl, hb⟩ := R.guard p j want hpn h1
  rw [R.op r hr] at h2
  refine Inv.tmp R rd I fun s hs hst => ?_
  have : s = r := R.uniq s r d hs hr hst h2
  subst this
  have := R.bef p s hpn hs hb
  exact ⟨by omega, .inl hb⟩
 cases hd : (X p).dn with
 | false =>
  have g := R.skip hpn hd
  refine ⟨fun h => (by rw [hd] at h; cases h), ρD, _, w, I.skip R rd hd, ?_⟩
  obtain ⟨f, hw, hf⟩ := g.want
  rcases zm8 hw hguard with ⟨_, h2⟩ | ⟨h1, _⟩ | h2
  · have := (h2 .no (.ok undef (X p).hp)).symm.trans (hf .no (.ok undef (X p).hp))
    cases this
  · have hst := stepR_op_skip (P := P) (b := b) (a := a) (k := k') (cs := cs) (w := w) (ops := ops) (i := J p) (rest := rest) (by rw [ho]; exact h1)
    rw [ho] at hst
    exact .one hst
  · have := (h2 (.ok undef (X p).hp) (.ok undef (X p).hp)).symm.trans (hf (.ok undef (X p).hp) (.ok undef (X p).hp))
    cases this
 | true =>
  have g := R.go hpn hd
  have hw : Region.wanted (O p) (yielded ops a.tmps) = true := by
   rcases g.want with h | ⟨f, h, hf⟩
   · exact zfu h _
   · rcases zm8 h hguard with ⟨h1, _⟩ | ⟨_, h2⟩ | h2
     · exact h1
     · have := (h2 .no (.ok undef (X p).hp)).symm.trans (hf .no (.ok undef (X p).hp))
       cases this
     · have := (h2 (.ok undef (X p).hp) (.ok undef (X p).hp)).symm.trans (hf (.ok undef (X p).hp) (.ok undef (X p).hp))
       cases this
  obtain ⟨v', ρ', w1, h1, h2, h3⟩ := zyr (b := b) (cs := cs) (rest := rest) (k := k') hrun (I.ctx R rd hd hF c) (fun t ht => Inv.tmp R rd I fun s hs hst => R.named p s t hpn hs ht hst) ho hw g.run
  obtain ⟨k1, ρ1, k2⟩ := I.go R rd hd hF hFD (zoe c) h1 h2
  exact ⟨k1, ρ1, _, w1, k2, h3⟩
theorem Inv.head (c : CtxA P G (X 0).hp ρ w0) (ht : tmR ρ (X 0).tm sz a.tmps) : Inv P sz O X ρ w0 a.defers (fun _ => False) ρ a w0 := by
 have le : ρ.Le (ρ.cut (nx X 0)) := ⟨fun m h => ⟨h, zoe c m h⟩, fun _ _ => rfl, fun _ _ => rfl, fun _ _ => rfl, fun _ _ => rfl, rfl, fun _ _ => rfl⟩
 have mem : ∀ m o N, hidden (X 0).hp.hid m = false ∨ (X 0).hp.lim ≤ m → Mem X (fun _ => False) m o N → N = nx X 0 ∧ (X 0).hp.h.get m = some o ∧ (X 0).hp.vis m = some o := by
  intro m o N h hm
  cases hm with
  | init h1 h2 => exact ⟨rfl, h2, by rw [Hp.vis_eq, hp_no.2 h]; exact h2⟩
  | last r h1 => exact h1.elim
 refine ⟨.refl ρ, fun m => ⟨.inl, fun h => h.elim id fun ⟨r, h, _⟩ => h.elim⟩, fun m o N h hm => ?_, fun m m' o o' N N' h h' hm hm' e => ?_, ht.1, fun t r h => h.elim, fun t _ => (ht.2 t).mono le, rfl, Nat.le_refl _, fun _ _ _ => rfl, fun r m h => h.elim, rfl, rfl, rfl⟩
 · obtain ⟨rfl, h1, h2⟩ := mem m o N h hm
   obtain ⟨k1, k2, k3⟩ := c.sat.vis m o h2
   exact ⟨k1, k2, c.sat.lt m o h1, k3.mono k1 le rfl⟩
 · exact c.sat.inj m m' o o' (mem m o N h hm).2.2 (mem m' o' N' h' hm').2.2 e
theorem Reg.ghost (hrun : zea P G run) (R : Reg P G run ops sz n ms J O X) (c : CtxA P G (X 0).hp ρ w0) (ht : tmR ρ (X 0).tm sz a.tmps) (b : Frame) : ∀ p, p ≤ n → (∀ s, s < p → Facts ms J X s) ∧ ∃ ρD a' w, Inv P sz O X ρ w0 a.defers (fun s => s < p) ρD a' w
 | 0, _ => ⟨fun s h => absurd h (Nat.not_lt_zero s), ρ, a, w0, by
  have e : (fun s => s < 0) = (fun _ : Nat => False) := by funext s; simp
  rw [e]; exact Inv.head c ht⟩
 | p + 1, hp => by
  obtain ⟨hF, ρD, a', w, I⟩ := R.ghost hrun c ht b p (by omega)
  have rd : Ready n ms J (fun s => s < p) p := ⟨by omega, fun r h => Nat.lt_of_lt_of_le h (by omega), Nat.lt_irrefl p, fun r hr hb => R.bef p r (by omega) hr hb,
   fun r s h1 h2 h3 => Nat.lt_trans (R.bef r s (by omega) h2 h3) h1⟩
  obtain ⟨h1, ρ1, a1, w1, h2, _⟩ := I.step hrun R rd hF hF c (b := b) (cs := []) (k' := []) (rest := [])
  refine ⟨fun s hs => ?_, ρ1, a1, w1, ?_⟩
  · by_cases e : s = p
    · subst e; exact h1
    · exact hF s (by omega)
  · have e : (fun s => s < p + 1) = (fun s => s < p ∨ s = p) := by funext s; exact propext (by omega)
    rw [e]; exact h2
/-! The whole region. -/
theorem Reg.wr_mono (R : Reg P G run ops sz n ms J O X) {p r m : Nat} (h : p ≤ r) (hr : r ≤ n) (hm : m ∈ (X p).hp.wr) : m ∈ (X r).hp.wr := by
 induction r with
 | zero => have : p = 0 := by omega
           subst this; exact hm
 | succ r ih =>
  by_cases e : p = r + 1
  · subst e; exact hm
  · have := ih (by omega) (by omega)
    rcases R.cases (p := r) (by omega) with ⟨_, g⟩ | ⟨_, g⟩
    · rw [g.hp]; exact this
    · rw [g.hp]; exact (zdh _ _).2 (.inl this)
theorem Reg.wr_of (R : Reg P G run ops sz n ms J O X) {p m : Nat} (hp : p < n) (hd : (X p).dn = true) (hm : m ∈ (X p).q.wr) (hl : m < (X 0).hp.lim) : m ∈ (X n).hp.wr := by
 refine R.wr_mono (p := p + 1) (by omega) (Nat.le_refl _) ?_
 rw [(R.go hp hd).hp]
 exact (zdh _ _).2 (.inr ⟨hm, by rw [(R.base p (by omega)).2]; exact hl⟩)
theorem Reg.same (R : Reg P G run ops sz n ms J O X) (hF : ∀ s, s < n → Facts ms J X s) {m : Nat} (hm : m < nx X 0) : ∀ p, p ≤ n → (∀ s, s < p → (X s).dn = true → m ∉ (X s).q.wr) → (X p).hp.h.get m = (X 0).hp.h.get m
 | 0, _, _ => rfl
 | p + 1, hp, hn => by
  have ih := R.same hF hm p (by omega) fun s hs => hn s (by omega)
  rcases R.cases (p := p) (by omega) with ⟨_, g⟩ | ⟨hd, g⟩
  · rw [g.hp]; exact ih
  · rw [R.h_go (by omega) hd, (hF p (by omega) hd).keep m (Nat.lt_of_lt_of_le hm (R.mono (by omega) (by omega))) (hn p (by omega) hd)]; exact ih
theorem Reg.wrlt (R : Reg P G run ops sz n ms J O X) (hF : ∀ s, s < n → Facts ms J X s) (hl : (X 0).hp.lim ≤ nx X 0) {m : Nat} : ∀ p, p ≤ n → m ∈ (X p).hp.wr → m ∈ (X 0).hp.wr ∨ (m < (X 0).hp.lim ∧ ∃ o, (X 0).hp.vis m = some o)
 | 0, _, h => .inl h
 | p + 1, hp, h => by
  rcases R.cases (p := p) (by omega) with ⟨_, g⟩ | ⟨hd, g⟩
  · rw [g.hp] at h; exact R.wrlt hF hl p (by omega) h
  · rw [g.hp] at h
    rcases (zdh _ _).1 h with h | ⟨h1, h2⟩
    · exact R.wrlt hF hl p (by omega) h
    · rw [(R.base p (by omega)).2] at h2
      by_cases hx : ∃ s, s < p ∧ (X s).dn = true ∧ m ∈ (X s).q.wr
      · obtain ⟨s, h3, h4, h5⟩ := hx
        refine R.wrlt hF hl p (by omega) (R.wr_mono (p := s + 1) (by omega) (by omega) ?_)
        rw [(R.go (by omega) h4).hp]
        exact (zdh _ _).2 (.inr ⟨h5, by rw [(R.base s (by omega)).2]; exact h2⟩)
      · have h3 := R.same hF (m := m) (by omega) p (by omega) fun s hs h4 h5 => hx ⟨s, hs, h4, h5⟩
        obtain ⟨_, h4, o, h5⟩ := (hF p (by omega) hd).wrv m h1
        refine .inr ⟨h2, o, ?_⟩
        rw [Hp.vis_eq, hp_no.2 (.inl ?_)]
        · rw [← h3]; exact h5
        · cases h6 : hidden (X 0).hp.hid m with
          | false => rfl
          | true => rw [R.hid_hid (by omega) h6] at h4; cases h4
theorem Reg.made (R : Reg P G run ops sz n ms J O X) {m : Nat} (h0 : nx X 0 ≤ m) : ∀ p, p ≤ n → m < nx X p → ∃ r, r < p ∧ (X r).dn = true ∧ nx X r ≤ m ∧ m < nx X (r + 1)
 | 0, _, h => by omega
 | p + 1, hp, h => by
  by_cases h1 : m < nx X p
  · obtain ⟨r, h2, h3⟩ := R.made h0 p (by omega) h1
    exact ⟨r, by omega, h3⟩
  · refine ⟨p, by omega, ?_, by omega, h⟩
    rcases R.cases (p := p) (by omega) with ⟨_, g⟩ | ⟨hd, _⟩
    · unfold nx at h h1; rw [g.hp] at h; omega
    · exact hd
theorem Reg.post (R : Reg P G run ops sz n ms J O X) (hF : ∀ s, s < n → Facts ms J X s) (c : CtxA P G (X 0).hp ρ w0) (I : Inv P sz O X ρ w0 df (fun s => s < n) ρD a w) : Post P G (X 0).hp (X n).hp ρ ρD w0 w := by
 have hb := R.base n (Nat.le_refl _)
 have hmono : ∀ r, r ≤ n → nx X 0 ≤ nx X r := fun r hr => R.mono (by omega) hr
 have hlim : (X 0).hp.lim ≤ nx X 0 := c.sat.lim
 have hvis : ∀ m o, (X n).hp.vis m = some o → (hidden (X 0).hp.hid m = false ∨ (X 0).hp.lim ≤ m) ∧ ∃ N, Mem X (fun s => s < n) m o N := by
  intro m o h
  obtain ⟨h1, h2⟩ := Hp.vis_some h
  rw [hp_no, hb.1, hb.2] at h1
  refine ⟨h1, ?_⟩
  rcases zg8 X m n with h3 | ⟨r, h3, h4, h5⟩
  · exact ⟨_, .init h3 (R.back (by omega) (Nat.le_refl _) hF (fun s _ hs => h3 s hs) h2)⟩
  · exact ⟨_, .last r h3 h4 h5 (R.back (by omega) (Nat.le_refl _) hF (fun s h6 h7 ht => by have := h5 s h7 ht; omega) h2)⟩
 have hwr : ∀ m, Wr X (fun s => s < n) m → ((X 0).hp.lim ≤ m ∧ m < (X 0).hp.next) ∨ m ∈ (X n).hp.wr := by
  rintro m (h | h | ⟨h1, r, h2, h3, h4⟩)
  · exact .inl h
  · exact .inr (R.wr_mono (by omega) (Nat.le_refl _) h)
  · exact .inr (R.wr_of h2 h3 h4 h1)
 refine ⟨⟨fun m o h => ?_, fun m m' o o' h h' e => ?_, fun m o h => R.lt (fun m o h => c.sat.lt m o h) (Nat.le_refl _) hF h, ?_, fun g hg => ?_, fun m hm => I.le.ok m (c.sat.needok m hm), c.sat.known.mono I.le c.sat.needok⟩, I.le, fun m h => ?_, fun m h1 h2 => ?_, fun m h1 _ => c.fresh m h1, hmono n (Nat.le_refl _), hb.1, hb.2,
  fun m h => ?_, fun m h1 h2 => ?_, fun m h => R.wr_mono (by omega) (Nat.le_refl _) h, fun m h => R.wrlt hF hlim n (Nat.le_refl _) h, I.size, fun b h1 h2 => I.frame b h1 fun m h3 h4 => h2 m h3 (hwr m h4), fun m h1 h2 => ?_, I.os, I.tape, I.output⟩
 · obtain ⟨h1, N, h2⟩ := hvis m o h
   obtain ⟨k1, k2, k3, k4⟩ := I.mem m o N h1 h2
   exact ⟨k1, k2, k4.mono ⟨k1, k3⟩ (Rho.cut_le _ _) rfl⟩
 · obtain ⟨h1, N, h2⟩ := hvis m o h
   obtain ⟨h1', N', h2'⟩ := hvis m' o' h'
   exact I.inj m m' o o' N N' h1 h1' h2 h2' e
 · have := hmono n (Nat.le_refl _)
   rw [hb.2]; unfold nx at *; omega
 · obtain ⟨h1, h2, h3⟩ := c.sat.glob g hg
   exact ⟨I.le.ok g h1, by rw [I.le.blk g h1]; exact h2, by rw [I.le.sh g h1]; exact h3⟩
 · rcases (I.ok m).1 h with h | ⟨r, h1, _, h2, h3⟩
   · exact .inl h
   · have e1 := hmono r (by omega)
     have e2 := R.mono (p := r + 1) (r := n) (by omega) (Nat.le_refl _)
     unfold nx at *
     exact .inr ⟨by omega, by omega⟩
 · obtain ⟨r, h3, h4⟩ := R.made h1 n (Nat.le_refl _) h2
   exact (I.ok m).2 (.inr ⟨r, h3, h4⟩)
 · have h1 : hidden (X 0).hp.hid m = true ∧ ¬ (X 0).hp.lim ≤ m := by
    refine ⟨?_, fun h' => ?_⟩
    · cases h2 : hidden (X 0).hp.hid m with
      | true => rfl
      | false => rw [hp_no.2 (.inl h2)] at h; cases h
    · rw [hp_no.2 (.inr h')] at h; cases h
   refine R.same hF (by omega) n (Nat.le_refl _) fun s hs hd hm => ?_
   have := ((hF s hs hd).wrv m hm).2.1
   rw [R.hid_hid hs h1.1] at this
   cases this
 · refine R.same hF (by omega) n (Nat.le_refl _) fun s hs hd hm => h2 (R.wr_of hs hd hm h1)
 · obtain ⟨r, h3, h4, h5, h6⟩ := R.made h1 n (Nat.le_refl _) h2
   rcases I.fresh r m h3 h4 h5 h6 with h | ⟨m', h7, h8, h9⟩
   · exact .inl h
   · exact .inr ⟨m', h7, hwr m' h8, h9⟩
theorem Reg.tmps (R : Reg P G run ops sz n ms J O X) (I : Inv P sz O X ρ w0 df (fun s => s < n) ρD a w) : tmR ρD (X n).tm sz a.tmps := by
 refine ⟨I.tsz, fun t => ?_⟩
 by_cases h : ∃ r, r < n ∧ (O r).dst = some t
 · obtain ⟨r, hr, ht⟩ := h
   rw [R.tm_back (a := r + 1) (by omega) (Nat.le_refl _) fun s h1 h2 e => by have := R.uniq s r t h2 hr e ht; omega]
   exact (I.tm1 t r hr ht).mono (Rho.cut_le _ _)
 · rw [R.tm_back (a := 0) (by omega) (Nat.le_refl _) fun s h1 h2 e => h ⟨s, h2, e⟩]
   exact (I.tm0 t fun s hs e => h ⟨s, hs, e⟩).mono (Rho.cut_le _ _)
end
end Go.Proofs.YtelanmknimapoaaGreatDoor.Sx
/- An executor of closed runs: drawn regions (12): whatever order is drawn. -/
namespace Go.Proofs.YtelanmknimapoaaGreatDoor.Sx
open Go
variable {P : Program} {G : Env}
theorem Sat.draw {hp : Hp} {ρ : Rho} {w : World} (h : Sat P G hp ρ w) (k : Nat) : Sat P G hp ρ { w with drawn := k } :=
 ⟨fun n o hn => let ⟨h1, h2, h3⟩ := h.vis n o hn; ⟨h1, h2, h3.mono h1 (.refl ρ) rfl⟩, h.inj, h.lt, h.lim, h.glob, h.needok, h.known⟩
theorem Post.draw {hp hp' : Hp} {ρ ρ' : Rho} {w w' : World} {k : Nat} (h : Post P G hp hp' ρ ρ' { w with drawn := k } w') : Post P G hp hp' ρ ρ' w w' :=
 ⟨h.sat, h.ext, h.new, h.all, h.was, h.next, h.hid, h.limE, h.hidget, h.keep, h.wr, h.wrlt, h.size, h.frame, h.fresh, h.os, h.tape, h.output⟩
theorem zyc {run : Run} {ops : Array Oper} {l : List Step} {sz : Nat} {tm tm2 : T Value} {hp hp2 : Hp} {ms wr : T Nat} (pl : PlanOk P G ops.toList l ms wr) (ch : Chain (oper P run) sz l [] [] tm hp tm2 hp2)
 (hbig : ∀ t, sz ≤ t → evA tm (.tmp t) = undef) :
 ∃ n J O X, Reg P G run ops sz n ms J O X ∧ (X 0).tm = tm ∧ (X 0).hp = hp ∧ (X n).tm = tm2 ∧ (X n).hp = hp2 := by
 have hback := pl.back
 have ord := zl6 hback (number ops.toList 0) 0
 rw [← pl.mask] at ord
 have hl := pl.steps
 generalize zch (number ops.toList 0) ms (number ops.toList 0) 0 = L at ord hl
 obtain ⟨X, x1, x2, x3, x4, x5, x6, x7⟩ := ztl ch
 have hlen : l.length = L.length := by rw [hl]; simp
 have at_ : ∀ p (hp : p < L.length), L[p]? = some L[p] := fun p hp => by simp
 let J : Nat → Nat := fun p => (L.getD p default).1
 let O : Nat → Oper := fun p => (L.getD p default).2
 have hJ : ∀ p (hp : p < L.length), L.getD p default = L[p] := fun p hp => by simp [List.getD, at_ p hp]
 have zero : ∀ i, bit 0 i = false := fun i => by rw [zes]; simp
 have op : ∀ p, p < L.length → ops[J p]? = some (O p) := by
  intro p hp
  have := (ord.mem L[p] (List.getElem_mem hp)).1
  show ops[(L.getD p default).1]? = some (L.getD p default).2
  rw [hJ p hp]
  simpa using this
 have opl : ∀ p, p < L.length → ops.toList[J p]? = some (O p) := fun p hp => by simpa using op p hp
 have inj : ∀ p r, p < L.length → r < L.length → J p = J r → p = r := by
  intro p r hp hr e
  have e' : L[p].1 = L[r].1 := by
   have : (L.getD p default).1 = (L.getD r default).1 := e
   rwa [hJ p hp, hJ r hr] at this
  have hpw := List.pairwise_iff_getElem.1 ord.nodup
  rcases Nat.lt_trichotomy p r with h | h | h
  · exact absurd e' (hpw p r hp hr h)
  · exact h
  · exact absurd e'.symm (hpw r p hr hp h)
 have surj : ∀ i, i < ops.size → ∃ p, p < L.length ∧ J p = i := by
  intro i hi
  rcases ord.all i (by simpa using hi) with h | ⟨y, hy, e⟩
  · rw [zero] at h; cases h
  · obtain ⟨p, hp, rfl⟩ := List.mem_iff_getElem.1 hy
    exact ⟨p, hp, by show (L.getD p default).1 = i; rw [hJ p hp]; exact e⟩
 have sizeOf_ : ∀ p, p < L.length → J p < ops.size := fun p hp => (Array.getElem?_eq_some_iff.1 (op p hp)).1
 have bef : ∀ p r, p < L.length → r < L.length → bit (zaz ms (J p)) (J r) = true → r < p := by
  intro p r hp hr hb
  have hsplit : L = L.take p ++ L[p] :: L.drop (p + 1) := by
   rw [List.getElem_cons_drop hp, List.take_append_drop]
  have hb' : bit (zaz (zbf ops.toList 0 .leaf) L[p].1) (J r) = true := by
   rw [← pl.mask]
   have : L[p].1 = J p := by show _ = (L.getD p default).1; rw [hJ p hp]
   rw [this]; exact hb
  rcases ord.bef _ _ _ hsplit _ hb' with h | ⟨y, hy, e⟩
  · rw [zero] at h; cases h
  · obtain ⟨s, hs, rfl⟩ := List.mem_iff_getElem.1 hy
    have hs' : s < p ∧ s < L.length := by
     have : s < (L.take p).length := hs
     rw [List.length_take] at this; omega
    rw [List.getElem_take] at e
    have : J s = J r := by show (L.getD s default).1 = _; rw [hJ s hs'.2]; exact e
    rw [← inj s r hs'.2 hr this]
    exact hs'.1
 refine ⟨L.length, J, O, X, ⟨op, inj, surj, bef, fun p r t hp hr ht hd => ?_, fun p r t hp hr h1 h2 => ?_, fun p g want hp hg => ?_, fun p hp => ?_, x3, x4, fun t ht => by rw [x1]; exact hbig t ht⟩, x1, x2, by rw [← hlen]; exact x5, by rw [← hlen]; exact x6⟩
 · obtain ⟨h1, h2⟩ := pl.named (opl p hp) ht (opl r hr) hd
   exact ⟨fun e => h1 (by rw [e]), h2⟩
 · refine inj p r hp hr ?_
   have e1 := pl.writes _ _ _ (opl p hp) h1
   have e2 := pl.writes _ _ _ (opl r hr) h2
   rw [e1] at e2
   exact Option.some.inj e2
 · obtain ⟨h1, h2⟩ := pl.guarded (opl p hp) hg
   have := sizeOf_ p hp
   obtain ⟨r, hr, e⟩ := surj g (by omega)
   exact ⟨r, hr, e, by rw [e]; exact h2⟩
 · refine x7 p _ ?_
   rw [hl, List.getElem?_map, at_ p hp]
   show some (stepOf P G ops.toList ms L[p]) = some (stepOf P G ops.toList ms (L.getD p default))
   rw [hJ p hp]
theorem zfl {listed : Array Bool} {i j : Nat} (hi : i < listed.size) : (listed.setIfInBounds i true).getD j false = true ↔ (listed.getD j false = true ∨ j = i) := by
 simp only [Array.getD_eq_getD_getElem?, Array.getElem?_setIfInBounds]
 by_cases e : i = j
 · subst e; simp [hi]
 · rw [if_neg e]
   constructor
   · exact .inl
   · rintro (h | h)
     · exact h
     · exact absurd h.symm e
theorem ye3 (hm : P.follows .mixedOrders = true) : zt1 P G := by
 intro run ops l S dfs K tm hp v hp' hrun hplan hx ρ w b a cs id k' c hf
 obtain ⟨ms, wr, pl⟩ := zvp hplan
 obtain ⟨tm2, hp2, ch, hK⟩ := zio l [] [] tm hp (fun x hx => by
  rw [pl.steps] at hx
  obtain ⟨y, _, rfl⟩ := List.mem_map.1 hx
  exact zup ..) hx
 have hbig : ∀ t, S.sz ≤ t → evA tm (.tmp t) = undef := by
  intro t ht
  have h := hf.tm.2 t
  rw [zmj (by rw [hf.tm.1]; exact ht)] at h
  generalize evA tm (.tmp t) = u at h
  generalize hz : undef = z at h
  cases h <;> first
   | (cases hz; done)
   | (rename_i i; exact absurd (ρ.one i) (by rw [← hz]; exact Bool.false_ne_true))
   | (rename_i l l' hl; cases hz; cases hl; rfl)
 obtain ⟨n, J, O, X, R, e1, e2, e3, e4⟩ := zyc pl ch hbig
 subst e1 e2 e3 e4
 let w0 : World := { w with drawn := w.drawn + 1 }
 have c0 : CtxA P G (X 0).hp ρ w0 := ⟨c.sat.draw _, c.fresh, c.known⟩
 obtain ⟨hF, _⟩ := R.ghost hrun c0 hf.tm b n (Nat.le_refl _)
 have hback := pl.back
 have hlt : ∀ p, p < n → J p < ops.size := fun p hp => (Array.getElem?_eq_some_iff.1 (R.op p hp)).1
 let Dof : Array Bool → Nat → Prop := fun listed p => p < n ∧ listed.getD (J p) false = true
 have h0 : Dof (Array.replicate ops.size false) = fun _ => False := by
  funext p
  refine propext ⟨fun h => ?_, False.elim⟩
  have := h.2
  simp only [Array.getD_eq_getD_getElem?, Array.getElem?_replicate] at this
  split at this <;> cases this
 obtain ⟨listed, a1, w1, hst, ⟨hsz, hcl, ρD, I⟩, hend⟩ := zpa (P := P) (b := b) (a := a) (cs := cs) (k' := k') (w := w) (id := id) (ops := ops) hm
  (I := fun listed a' w' => listed.size = ops.size ∧ Closed ops listed ∧ ∃ ρD, Inv P S.sz O X ρ w0 a.defers (Dof listed) ρD a' w')
  ⟨by simp, (fun j i hj => by
   simp only [Array.getD_eq_getD_getElem?, Array.getElem?_replicate] at hj
   split at hj <;> (cases hj)), ρ, by rw [h0]; exact Inv.head c0 hf.tm⟩
  (fun listed a' w' i rest ⟨hsz, hcl, ρD, I⟩ hi => by
   obtain ⟨hi1, hi2, _⟩ := ze1 hi
   obtain ⟨p, hp, rfl⟩ := R.surj i hi1
   have rd : Ready n ms J (Dof listed) p := by
    refine ⟨hp, fun r h => h.1, fun h => ?_, fun r hr hb => ⟨hr, ?_⟩, fun r s hr hs hb => ⟨hs, ?_⟩⟩
    · have h2 := h.2
      have : listed[J p]? = some listed[J p] := by simp [hsz, hi1]
      simp only [Array.getD_eq_getD_getElem?, this] at hi2 h2
      rw [show (some listed[J p]).getD true = listed[J p] from rfl] at hi2
      rw [show (some listed[J p]).getD false = listed[J p] from rfl] at h2
      rw [hi2] at h2; cases h2
    · rw [pl.mask] at hb; exact zhh hback hcl hi _ hb
    · rw [pl.mask] at hb; exact hcl _ _ hr.2 hb
   obtain ⟨_, ρ1, a1, w1, g1, g2⟩ := I.step hrun R rd (fun s hs => hF s (by omega)) (fun s hs => hF s hs.1) c0 (b := b) (cs := cs) (k' := k') (rest := rest)
   refine ⟨a1, w1, g2, by simpa using hsz, ztk hback hcl hi, ρ1, ?_⟩
   have : Dof (listed.setIfInBounds (J p) true) = fun s => Dof listed s ∨ s = p := by
    funext s
    refine propext ⟨fun ⟨h1, h2⟩ => ?_, fun h => ?_⟩
    · rcases (zfl (by rw [hsz]; exact hi1)).1 h2 with h3 | h3
      · exact .inl ⟨h1, h3⟩
      · exact .inr (R.inj s p h1 hp h3)
    · rcases h with ⟨h1, h2⟩ | rfl
      · exact ⟨h1, (zfl (by rw [hsz]; exact hi1)).2 (.inl h2)⟩
      · exact ⟨hp, (zfl (by rw [hsz]; exact hi1)).2 (.inr rfl)⟩
   rw [this]; exact g1)
 have hall := ztx hsz (fun i o ho => hback i o (by simpa using ho)) hend
 have hD : Dof listed = fun s => s < n := by
  funext s
  exact propext ⟨fun h => h.1, fun h => ⟨h, hall _ (hlt s h)⟩⟩
 rw [hD] at I
 have hpost := (R.post hF c0 I).draw
 have hfs := hf.mono hpost.ext
 exact ⟨_, _, ρD, w1, a1, hK, hpost, ⟨hfs.fn, hfs.kind, hfs.ro, hfs.rook, R.tmps I, by rw [I.df]; exact hfs.defers, hfs.res⟩, hst⟩
end Go.Proofs.YtelanmknimapoaaGreatDoor.Sx
/- An executor of closed runs: a run in segments. -/
namespace Go.Proofs.YtelanmknimapoaaGreatDoor.Sx
open Go Go.RowKit
variable {P : Program} {G : Env}
noncomputable section
/-! Parts of a function's text. -/
end
structure Sub (hp1 hp : Hp) : Prop where
 get : ∀ n o, hp1.h.get n = some o → hp.h.get n = some o
 next : hp1.next = hp.next
 hid : hp1.hid = hp.hid
 wr : hp1.wr = hp.wr
 lim : hp1.lim = hp.lim
theorem CtxA.sub {hp hp1 : Hp} {ρ : Rho} {w : World} (s : Sub hp1 hp) (c : CtxA P G hp ρ w) : CtxA P G hp1 ρ w := by
 have hv : ∀ n o, hp1.vis n = some o → hp.vis n = some o := by
  intro n o h
  obtain ⟨h1, h2⟩ := Hp.vis_some h
  have e : hp.no n = hp1.no n := by unfold Hp.no; rw [s.hid, s.lim]
  rw [Hp.vis_eq, e, h1]
  exact s.get n o h2
 refine ⟨⟨fun n o h => c.sat.vis n o (hv n o h), fun n m o o' h h' => c.sat.inj n m o o' (hv n o h) (hv m o' h'), fun n o h => by rw [s.next]; exact c.sat.lt n o (s.get n o h), by rw [s.lim, s.next]; exact c.sat.lim, c.sat.glob, c.sat.needok, c.sat.known⟩, fun n hn => c.fresh n (by rw [← s.next]; exact hn), c.known⟩
structure Fr (lim : Nat) (ρ : Rho) (w w' : World) : Prop where
 size : w.heap.size ≤ w'.heap.size
 frame : ∀ b, b < w.heap.size → (∀ n, ρ.ok n → lim ≤ n → ρ.blk n ≠ b) → w'.heap[b]? = w.heap[b]?
 os : w'.os = w.os
 tape : w'.tape = w.tape
 output : w'.output = w.output
theorem Fr.after {hp hpA : Hp} {ρ ρA : Rho} {w wA w' : World} (_c : CtxA P G hp ρ w) (p : Post P G hp hpA ρ ρA w wA) (hwr : hpA.wr = []) (f : Fr hp.lim ρA wA w') : Fr hp.lim ρ w w' := by
 refine ⟨Nat.le_trans p.size f.size, fun b hb h => ?_, f.os.trans p.os, f.tape.trans p.tape, f.output.trans p.output⟩
 have h1 : wA.heap[b]? = w.heap[b]? := p.frame b hb fun n hn hor => by
  rcases hor with h2 | h2
  · exact h n hn h2.1
  · rw [hwr] at h2; cases h2
 rw [← h1]
 refine f.frame b (Nat.lt_of_lt_of_le hb p.size) fun n hn hl => ?_
 rcases p.new n hn with h2 | ⟨h2, h3⟩
 · rw [p.ext.blk n h2]; exact h n h2 hl
 · rcases p.fresh n h2 h3 with h4 | ⟨m, h4, h5, h6⟩
   · omega
   · rw [h6]
     rcases h5 with h5 | h5
     · exact h m h4 h5.1
     · rw [hwr] at h5; cases h5
end Go.Proofs.YtelanmknimapoaaGreatDoor.Sx
/- An executor of closed runs: tables that lie in memory beforehand. -/
namespace Go.Proofs.YtelanmknimapoaaGreatDoor.Sx
open Go Go.RowKit
variable {P : Program} {G : Env}
abbrev Tab := Nat × List Value
noncomputable def zuk : List Tab → T AObj
 | [] => .leaf
 | x :: l => (zuk l).set x.1 (some (.ro (T.setList x.2 .leaf 0)))
noncomputable def zd7 (m : Nat) (l : List Tab) : Hp := ⟨zuk l, m, [], [], m⟩
theorem zeg : ∀ (l : List Tab) (n : Nat) (o : AObj), (zuk l).get n = some o → ∃ x ∈ l, x.1 = n ∧ o = .ro (T.setList x.2 .leaf 0)
 | [], n, o, h => by cases h
 | x :: l, n, o, h => by
  unfold zuk at h
  rw [T.get_set] at h
  by_cases e : n = x.1
  · rw [if_pos e] at h; cases h; exact ⟨x, .head _, e.symm, rfl⟩
  · rw [if_neg e] at h
    obtain ⟨y, h1, h2⟩ := zeg l n o h
    exact ⟨y, .tail _ h1, h2⟩
def zs4 (w : World) (β : Nat → Nat) (n : Nat) : Obj := (w.heap[β n]?).getD (.cells #[] 0)
def rhoB (m : Nat) (β : Nat → Nat) (σ : Nat → Value) (h1 : ∀ i, oneC (σ i) = true) (w : World) : Rho := ⟨fun n => n < m, β, fun _ => 0, fun _ => 0, fun _ => 0, σ, h1, zs4 w β⟩
theorem ybh {l : List Tab} {m : Nat} {σ : Nat → Value} (one : ∀ i, oneC (σ i) = true) {β : Nat → Nat} {w : World} (hm : G.g ≤ m) (hβ : ∀ g, g < G.g → β g = g) (hl : ∀ x ∈ l, x.1 < m ∧ spL0 x.2 = true)
 (hin : ∀ x ∈ l, β x.1 < w.heap.size) (hinj : ∀ x ∈ l, ∀ y ∈ l, β x.1 = β y.1 → x.1 = y.1) (hc : ∀ x ∈ l, ∀ (i : Nat) (v : Value), x.2[i]? = some v → w.cell? ⟨β x.1, i, none⟩ = some (in0 σ v))
 (hn : ∀ n ∈ G.need, n < m) (hk : Known P G σ β (zs4 w β)) (hko : KnownOk P G σ β (zs4 w β)) : CtxA P G (zd7 m l) (rhoB m β σ one w) w := by
 have hv : ∀ n o, (zd7 m l).vis n = some o → (zuk l).get n = some o := fun n o h => (Hp.vis_some h).2
 refine ⟨⟨fun n o hn => ?_, fun n n' o o' h h' e => ?_, fun n o hn => ?_, Nat.le_refl _, fun g hg => ⟨Nat.lt_of_lt_of_le hg hm, hβ g hg, rfl⟩, hn, hk⟩, fun n hn h => absurd h (Nat.not_lt.2 hn), hko⟩
 · obtain ⟨x, hx, rfl, rfl⟩ := zeg l n o (hv n o hn)
   obtain ⟨h1, h2⟩ := hl x hx
   refine ⟨h1, hin x hx, ?_, fun i v hi => ?_⟩
   · show w.heap[β x.1]? = some ((w.heap[β x.1]?).getD _)
     rw [Array.getElem?_eq_getElem (hin x hx)]; rfl
   · rw [T.get_setList] at hi
     by_cases hin' : 0 ≤ i ∧ i < 0 + x.2.length
     · rw [if_pos hin', Nat.sub_zero] at hi
       have hp := zfz h2 v (List.mem_of_getElem? hi)
       refine ⟨zo7 hp, in0 σ v, ?_, zqt (ρ := rhoB m β σ one w) hp⟩
       show w.cell? ⟨β x.1, 0 + i, none⟩ = _
       rw [Nat.zero_add]
       exact hc x hx i v hi
     · rw [if_neg hin'] at hi; cases hi
 · obtain ⟨x, hx, rfl, rfl⟩ := zeg l n o (hv n o h)
   obtain ⟨y, hy, rfl, rfl⟩ := zeg l n' o' (hv n' o' h')
   exact hinj x hx y hy e
 · obtain ⟨x, hx, rfl, rfl⟩ := zeg l n o hn
   exact (hl x hx).1
/-! Symbols by a list. -/
def zao (l : List Value) (i : Nat) : Value := (l[i]?).getD (.bool false)
theorem zad {l : List Value} (h : l.all oneC = true) (i : Nat) : oneC (zao l i) = true := by
 unfold zao
 cases hi : l[i]? with
 | none => rfl
 | some v => exact List.all_eq_true.1 h v (List.mem_of_getElem? hi)
/-! Facts about operations. -/
noncomputable section
def binN : BinOp → Nat
 | .add => 0 | .sub => 1 | .mul => 2 | .quo => 3 | .rem => 4 | .and => 5 | .or => 6 | .xor => 7 | .shl => 8 | .shr => 9 | .andNot => 10
 | .eql => 11 | .neq => 12 | .lss => 13 | .leq => 14 | .gtr => 15 | .geq => 16
def zag (op : BinOp) (t : TypeId) : Op → Bool
 | .binOp p u _ _ _ => andB (Nat.beq (binN p) (binN op)) (Nat.beq u t)
 | _ => false
def zjg (s d : TypeId) : Op → Bool
 | .convert a b _ => andB (Nat.beq a s) (Nat.beq b d)
 | _ => false
def isLen (t : TypeId) : Op → Bool
 | .call c => match c.callee, c.argTypes.toList with
  | .builtin .len, [u] => Nat.beq u t
  | _, _ => false
 | _ => false
end
theorem yap {a b : BinOp} (h : Nat.beq (binN a) (binN b) = true) : a = b := by cases a <;> cases b <;> first | rfl | cases h
def FOk (P : Program) (σ : Nat → Value) (wd : World → Prop) (F : OFact) : Prop :=
 spL1 F.args = true ∧ sp2 F.res = true ∧ ∀ (o : Oper) (ev : Operand → Value), F.test o.op = true → o.op.operands.toList.map ev = F.args.map (in1 σ) → ∀ W, (F.mem = true → wd W) → (execOp ev o).run P W = .ok (.value (in2 σ F.res)) W
section
variable {σ : Nat → Value} {wd : World → Prop}
theorem zae : ∀ F ∈ ([] : List OFact), FOk P σ wd F := fun _ h => by cases h
theorem zab {F : OFact} {l : List OFact} (h : FOk P σ wd F) (k : ∀ F ∈ l, FOk P σ wd F) : ∀ F' ∈ F :: l, FOk P σ wd F' := fun F' hF => by
 rcases List.mem_cons.1 hF with rfl | hF
 · exact h
 · exact k F' hF
theorem map2 {ev : Operand → Value} {x y : Operand} {a b : Value} (h : [x, y].map ev = [a, b]) : ev x = a ∧ ev y = b := by simpa using h
theorem map1 {ev : Operand → Value} {x : Operand} {a : Value} (h : [x].map ev = [a]) : ev x = a := by simpa using h
theorem zan {op : BinOp} {t : TypeId} {x y r a b c : Value} (ha : in1 σ x = a) (hb : in1 σ y = b) (hr : in2 σ r = c) (h1 : spL1 [x, y] = true) (h2 : sp2 r = true)
 (h : ∀ (u v : Operand) (W : World), (do eqGuard op t u v a b; binOp op t a b : Sem Value).run P W = .ok c W) : FOk P σ wd ⟨zag op t, [x, y], r, false⟩ := by
 refine ⟨h1, h2, fun o ev ht he W _ => ?_⟩
 cases ho : o.op with
 | binOp p u a' b' yt =>
  rw [ho] at ht he
  obtain ⟨g1, g2⟩ := za5 (show andB (Nat.beq (binN p) (binN op)) (Nat.beq u t) = true from ht)
  obtain rfl := yap g1
  obtain rfl := Nat.eq_of_beq_eq_true g2
  obtain ⟨e1, e2⟩ := map2 (show [a', b'].map ev = [in1 σ x, in1 σ y] from he)
  have : execOp ev o = valN (do eqGuard p u a' b' (ev a') (ev b'); binOp p u (ev a') (ev b')) := by unfold execOp; rw [ho]; rfl
  rw [this, e1, e2, ha, hb, hr]
  exact za1 (h a' b' W)
 | _ => rw [ho] at ht; cases ht
theorem zzv {s d : TypeId} {x r a c : Value} (ha : in1 σ x = a) (hr : in2 σ r = c) (h1 : spL1 [x] = true) (h2 : sp2 r = true)
 (h : ∀ W : World, (convert s d a).run P W = .ok c W) : FOk P σ wd ⟨zjg s d, [x], r, false⟩ := by
 refine ⟨h1, h2, fun o ev ht he W _ => ?_⟩
 cases ho : o.op with
 | convert p u a' =>
  rw [ho] at ht he
  obtain ⟨g1, g2⟩ := za5 (show andB (Nat.beq p s) (Nat.beq u d) = true from ht)
  obtain rfl := Nat.eq_of_beq_eq_true g1
  obtain rfl := Nat.eq_of_beq_eq_true g2
  have e1 := map1 (show [a'].map ev = [in1 σ x] from he)
  have : execOp ev o = valN (convert p u (ev a')) := by unfold execOp; rw [ho]; rfl
  rw [this, e1, ha, hr]
  exact za1 (h W)
 | _ => rw [ho] at ht; cases ht
theorem ydt {t : TypeId} {x r a c : Value} (ha : in1 σ x = a) (hr : in2 σ r = c) (h1 : spL1 [x] = true) (h2 : sp2 r = true)
 (h : ∀ (ty : TypeId) (k : Array Bool) (W : World), (invoke (.builtin .len #[t] ty k) #[a]).run P W = .ok (.value c) W) : FOk P σ wd ⟨isLen t, [x], r, false⟩ := by
 refine ⟨h1, h2, fun o ev ht he W _ => ?_⟩
 cases ho : o.op with
 | call cl =>
  rw [ho] at ht he
  unfold isLen at ht
  simp only at ht
  split at ht
  · rename_i u hc hts
    obtain rfl := Nat.eq_of_beq_eq_true ht
    have hops : (Op.call cl).operands.toList = cl.args.toList := by simp [Op.operands, Call.operands, hc]
    rw [hops] at he
    have hargs : cl.args.map ev = #[a] := by
     apply Array.ext'
     rw [Array.toList_map, he, ← ha]; rfl
    have htys : cl.argTypes = #[u] := by apply Array.ext'; rw [hts]
    have : execOp ev o = (do let d ← resolve ev cl o.type; invoke d.target d.args) := by unfold execOp; rw [ho]
    rw [this]
    unfold resolve
    rw [hc, hargs, htys, hr]
    apply h
    · exact o.type
    · exact #[]
  · cases ht
 | _ => rw [ho] at ht; cases ht
end
theorem zw8 {α : Type} [BEq α] [LawfulBEq α] [DecidableEq α] (a b : α) : (a == b) = decide (a = b) := by cases h : a == b <;> simp_all
theorem yb8 {op : BinOp} {t : TypeId} {u v : Operand} {k : IntKind} {a b : Int} (w : World) :
 ((op = .eql → (do eqGuard op t u v (.int k a) (.int k b); binOp op t (.int k a) (.int k b) : Sem Value).run P w = .ok (.bool (decide (a = b))) w) ∧
  (op = .neq → (do eqGuard op t u v (.int k a) (.int k b); binOp op t (.int k a) (.int k b) : Sem Value).run P w = .ok (.bool (decide (a ≠ b))) w) ∧
  (op = .lss → (do eqGuard op t u v (.int k a) (.int k b); binOp op t (.int k a) (.int k b) : Sem Value).run P w = .ok (.bool (decide (a < b))) w) ∧
  (op = .leq → (do eqGuard op t u v (.int k a) (.int k b); binOp op t (.int k a) (.int k b) : Sem Value).run P w = .ok (.bool (decide (a ≤ b))) w) ∧
  (op = .gtr → (do eqGuard op t u v (.int k a) (.int k b); binOp op t (.int k a) (.int k b) : Sem Value).run P w = .ok (.bool (decide (b < a))) w) ∧
  (op = .geq → (do eqGuard op t u v (.int k a) (.int k b); binOp op t (.int k a) (.int k b) : Sem Value).run P w = .ok (.bool (decide (b ≤ a))) w)) := by
 refine ⟨?_, ?_, ?_, ?_, ?_, ?_⟩
 all_goals
  rintro rfl
  simp [eqGuard, binOp, Op.intCmp, zw8, bne]
def cmpI : BinOp → Int → Int → Option Bool
 | .eql, a, b => some (decide (a = b))
 | .neq, a, b => some (decide (a ≠ b))
 | .lss, a, b => some (decide (a < b))
 | .leq, a, b => some (decide (a ≤ b))
 | .gtr, a, b => some (decide (b < a))
 | .geq, a, b => some (decide (b ≤ a))
 | _, _, _ => none
theorem yad {op : BinOp} {t : TypeId} {u v : Operand} {k : IntKind} {a b : Int} {c : Bool} (h : cmpI op a b = some c) (w : World) : (do eqGuard op t u v (.int k a) (.int k b); binOp op t (.int k a) (.int k b) : Sem Value).run P w = .ok (.bool c) w := by
 obtain ⟨h1, h2, h3, h4, h5, h6⟩ := yb8 (P := P) (op := op) (t := t) (u := u) (v := v) (k := k) (a := a) (b := b) w
 cases op <;> simp only [cmpI, Option.some.injEq, reduceCtorEq] at h <;> subst h <;> first | exact h1 rfl | exact h2 rfl | exact h3 rfl | exact h4 rfl | exact h5 rfl | exact h6 rfl
theorem zai {σ : Nat → Value} {wd : World → Prop} {op : BinOp} {t : TypeId} {k : IntKind} {x y : Value} {a b : Int} {c : Bool} (ha : in1 σ x = .int k a) (hb : in1 σ y = .int k b) (h1 : spL1 [x, y] = true) (h : cmpI op a b = some c) : FOk P σ wd ⟨zag op t, [x, y], .bool c, false⟩ :=
 zan ha hb (c := .bool c) rfl h1 rfl fun _ _ W => yad h W
theorem zay {σ : Nat → Value} {wd : World → Prop} {op : BinOp} {t : TypeId} {x y : Value} {a b : ByteArray} {c : Bool} (ha : in1 σ x = .string a) (hb : in1 σ y = .string b) (h1 : spL1 [x, y] = true) (h : (op = .eql ∧ (c = true ↔ a = b)) ∨ (op = .neq ∧ (c = true ↔ a ≠ b))) : FOk P σ wd ⟨zag op t, [x, y], .bool c, false⟩ := by
 refine zan ha hb (c := .bool c) rfl h1 rfl fun _ _ W => ?_
 have e : (a.toList == b.toList) = decide (a = b) := by
  rw [ByteArray.toList_eq, ByteArray.toList_eq, zw8]
  refine decide_eq_decide.2 ⟨fun h => ByteArray.ext (Array.toList_inj.1 h), fun h => by rw [h]⟩
 rcases h with ⟨rfl, h⟩ | ⟨rfl, h⟩
 · have : c = decide (a = b) := by cases c <;> simp_all
   subst this
   simp [eqGuard, binOp, Op.stringOp, e]
 · have : c = !decide (a = b) := by cases c <;> simp_all
   subst this
   simp [eqGuard, binOp, Op.stringOp, e]
theorem zbe {σ : Nat → Value} {wd : World → Prop} {t : TypeId} {x r : Value} {s : ByteArray} (ht : P.underlying t = some .string) (ha : in1 σ x = .string s) (hr : in2 σ r = .int .i64 s.size) (h1 : spL1 [x] = true) (h2 : sp2 r = true) : FOk P σ wd ⟨isLen t, [x], r, false⟩ := by
 refine ydt ha hr h1 h2 fun ty k W => ?_
 have e : (Builtin.len_ #[t] ty #[.string s]).run P W = .ok (goInt s.size) W := by
  show ((underlying t >>= _) : Sem Value).run P W = _
  rw [Sem.run_bind, run_underlying ht]
  rfl
 exact za1 (s := Builtin.len_ #[t] ty #[.string s]) e
theorem zcj {σ : Nat → Value} {wd : World → Prop} {s d : TypeId} {j k : IntKind} {x r : Value} {a c : Int} (hs : P.underlying s = some (.int j)) (hd : P.underlying d = some (.int k)) (ha : in1 σ x = .int j a) (hr : in2 σ r = .int k c) (h1 : spL1 [x] = true) (h2 : sp2 r = true) (h : k.wrap a = c) :
 FOk P σ wd ⟨zjg s d, [x], r, false⟩ := by
 refine zzv ha hr h1 h2 fun W => ?_
 subst h
 unfold convert
 rw [Sem.run_bind, run_underlying hs]
 simp only [Result.andThen_ok]
 rw [Sem.run_bind, run_underlying hd]
 rfl
noncomputable section
end
def TOk (P : Program) (σ : Nat → Value) (wd : World → Prop) (x : FuncId × List Value × Value) : Prop :=
 spL1 x.2.1 = true ∧ ∀ W, wd W → Calls P x.1 ⟨x.2.1.map (in1 σ)⟩ W fun e W' => TEnd σ x.2.2 e ∧ RowKit.Below W.heap.size W W'
theorem zac {σ : Nat → Value} {wd : World → Prop} : ∀ x ∈ ([] : List (FuncId × List Value × Value)), TOk P σ wd x := fun _ h => by cases h
theorem zaa {σ : Nat → Value} {wd : World → Prop} {x : FuncId × List Value × Value} {l : List (FuncId × List Value × Value)} (h : TOk P σ wd x) (k : ∀ y ∈ l, TOk P σ wd y) : ∀ y ∈ x :: l, TOk P σ wd y := fun y hy => by
 rcases List.mem_cons.1 hy with rfl | hy
 · exact h
 · exact k y hy
theorem tok {σ : Nat → Value} {wd : World → Prop} {f : FuncId} {args : List Value} {r v : Value} {as : Array Value} (h1 : spL1 args = true) (h2 : sp2 r = true) (ha : (⟨args.map (in1 σ)⟩ : Array Value) = as) (hr : in2 σ r = v)
 (h : ∀ W, wd W → Calls P f as W fun e W' => e = .returned v ∧ RowKit.Below W.heap.size W W') : TOk P σ wd (f, args, r) := ⟨h1, fun W hW => by show Calls P f ⟨args.map (in1 σ)⟩ W _; rw [ha]; exact (h W hW).mono fun e W' ⟨he, hB⟩ => ⟨.inl ⟨h2, by rw [he, hr]⟩, hB⟩⟩
theorem tokP {σ : Nat → Value} {wd : World → Prop} {f : FuncId} {args : List Value} {u v : Value} {as : Array Value} (h1 : spL1 args = true) (h2 : sp1 u = true) (ha : (⟨args.map (in1 σ)⟩ : Array Value) = as) (hr : in1 σ u = v)
 (h : ∀ W, wd W → Calls P f as W fun e W' => e = .panicked [{ v := v, recovered := false }] ∧ RowKit.Below W.heap.size W W') : TOk P σ wd (f, args, panV u) := ⟨h1, fun W hW => by show Calls P f ⟨args.map (in1 σ)⟩ W _; rw [ha]; exact (h W hW).mono fun e W' ⟨he, hB⟩ => ⟨.inr ⟨u, rfl, h2, by rw [he, hr]⟩, hB⟩⟩
theorem zqm {G : Env} {β : Nat → Nat} {w W : World} (h : Wd G β (zs4 w β) W) {n : Nat} (hn : n ∈ G.need) (hlt : β n < w.heap.size) : W.heap[β n]? = w.heap[β n]? := by
 rw [h n hn]
 show some ((w.heap[β n]?).getD _) = _
 rw [Array.getElem?_eq_getElem hlt]; rfl
theorem zxt (hf : P.follows .mixedOrders = true) {g : Nat} {need : List Nat} {facts : List OFact} {tab : List (FuncId × List Value × Value)} {l : List Tab} {σ : Nat → Value} (one : ∀ i, oneC (σ i) = true) {w : World}
 (hl : ∀ x ∈ l, x.1 < g ∧ x.1 < w.heap.size ∧ spL0 x.2 = true) (hc : ∀ x ∈ l, ∀ (i : Nat) (v : Value), x.2[i]? = some v → w.cell? ⟨x.1, i, none⟩ = some (in0 σ v)) (hn : ∀ n ∈ need, n < g)
 (h1 : ∀ F ∈ facts, FOk P σ (fun W => ∀ n ∈ need, n < w.heap.size → W.heap[n]? = w.heap[n]?) F) (h2 : ∀ x ∈ tab, TOk P σ (fun W => ∀ n ∈ need, n < w.heap.size → W.heap[n]? = w.heap[n]?) x)
 {fuel : Nat} {f : FuncId} {args : List Value} {v : Value} (h : gives (xfun P ⟨g, need, facts, tab, fun _ => none⟩ fuel f args (zd7 g l)) v = true) (ha : spL1 args = true) (hv : sp2 v = true) :
 Calls P f ⟨args.map (in1 σ)⟩ w fun e w' => e = .returned (in2 σ v) ∧ Below w.heap.size w w' := by
 have hw : ∀ W, Wd ⟨g, need, facts, tab, fun _ => none⟩ (fun n => n) (zs4 w fun n => n) W → ∀ n ∈ need, n < w.heap.size → W.heap[n]? = w.heap[n]? := fun W hW n hn hlt => zqm hW hn hlt
 have c : CtxA P ⟨g, need, facts, tab, fun _ => none⟩ (zd7 g l) (rhoB g (fun n => n) σ one w) w := by
  refine ybh one (Nat.le_refl _) (fun _ _ => rfl) (fun x hx => ⟨(hl x hx).1, (hl x hx).2.2⟩) (fun x hx => (hl x hx).2.1) (fun x _ y _ e => e) hc hn ⟨fun F hF => ?_, fun x hx => ?_⟩ (fun f kf hkf => by cases hkf)
  · obtain ⟨k1, k2, k3⟩ := h1 F hF
    exact ⟨k1, k2, fun o ev ht he W hW => k3 o ev ht he W fun m => hw W (hW m)⟩
  · obtain ⟨k1, k3⟩ := h2 x hx
    exact ⟨k1, fun W hW => k3 W (hw W hW)⟩
 exact zqi (ye3 hf) (hp := zd7 g l) rfl h ha hv c
end Go.Proofs.YtelanmknimapoaaGreatDoor.Sx
/- An executor of runs: functions that are not entered. -/
namespace Go.Proofs.YtelanmknimapoaaGreatDoor.Sx
open Go Go.RowKit
variable {P : Program} {G : Env}
noncomputable section
def zhg : List Value → Option (List ByteArray)
 | [] => some []
 | .string s :: l => zaf (zhg l) none fun r => some (s :: r)
 | _ => none
def zzb (args : List Value) (hp : Hp) : R :=
 match args with
 | [v, .string sep] => zcm v .no fun a n c => zaf a .no fun a => zc0 a .no fun b o => pick (andB (Nat.ble 1 n) (andB (Nat.ble n c) (Nat.ble n most)))
  (onRead (hp.vis b) .no fun ct => zaf (za8 ct o n) .no fun l => zaf (zhg l) .no fun xs =>
   zoa (Lib.join (xs.map (·.data.toList)) sep.data.toList) fun r => pick (Nat.ble r.length most) (.ok (.string ⟨⟨r⟩⟩) hp) .no) .no
 | _ => .no
end
theorem znc {ρ : Rho} : ∀ {l l' : List Value} {xs : List ByteArray}, zhg l = some xs → LR ρ l l' → l' = xs.map .string ∧ l.length = xs.length
 | [], _, xs, h, hl => by cases hl; cases h; exact ⟨rfl, rfl⟩
 | v :: l, _, xs, h, hl => by
  cases hl with
  | cons _ v' _ l' hv hl =>
   cases v <;> try (cases h; done)
   rename_i s
   replace h : zaf (zhg l) none (fun r => some (s :: r)) = some xs := h
   cases hs : zhg l with
   | none => rw [hs] at h; cases h
   | some r =>
    rw [hs] at h
    cases h
    cases hv
    obtain ⟨h1, h2⟩ := znc hs hl
    exact ⟨by rw [h1]; rfl, by simp [h2]⟩
theorem znd : ∀ {l : List Value} {xs : List ByteArray} {j : Nat} {y : ByteArray}, zhg l = some xs → xs[j]? = some y → l[j]? = some (.string y)
 | [], xs, j, y, hxs, hy => by cases hxs; cases hy
 | z :: l, xs, j, y, hxs, hy => by
  cases z <;> try (cases hxs; done)
  rename_i s
  replace hxs : zaf (zhg l) none (fun r => some (s :: r)) = some xs := hxs
  cases hs : zhg l with
  | none => rw [hs] at hxs; cases hxs
  | some r =>
   rw [hs] at hxs
   cases hxs
   cases j with
   | zero => cases hy; rfl
   | succ j => exact znd hs (j := j) hy
def zm0 (P : Program) (f : FuncId) : Prop :=
 ∀ (bk o c : Nat) (xs : List ByteArray) (sep : ByteArray) (w : World), (∀ (j : Nat) x, xs[j]? = some x → w.cell? ⟨bk, o + j, none⟩ = some (.string x)) → bk < w.heap.size → xs.length ≤ 140737488355328 → xs.length ≤ c →
  (Lib.join (xs.map (·.data.toList)) sep.data.toList).length ≤ 140737488355328 →
  Calls P f #[.slice (some ⟨bk, o, none⟩) xs.length c, .string sep] w fun e w' => e = .returned (.string ⟨(Lib.join (xs.map (·.data.toList)) sep.data.toList).toArray⟩) ∧ Below w.heap.size w w'
def zqe (P : Program) (G : Env) (sy : Nat → Value) (wd : World → Prop) (f : FuncId) (kf : List Value → Hp → R) : Prop :=
 ∀ args hp v hp', kf args hp = .ok v hp' → ∀ ρ w args', ρ.sym = sy → (seen hp G.need = true → wd w) → Sat P G hp ρ w → (∀ n, hp.next ≤ n → ¬ ρ.ok n) → LR ρ args args' →
  Calls P f ⟨args'⟩ w fun e w' => yaw P G hp hp' ρ w v e w'
def KnOk (P : Program) (G : Env) (f : FuncId) (kf : List Value → Hp → R) : Prop :=
 ∀ args hp v hp', kf args hp = .ok v hp' → ∀ ρ w args', Sat P G hp ρ w → (∀ n, hp.next ≤ n → ¬ ρ.ok n) → LR ρ args args' →
  Calls P f ⟨args'⟩ w fun e w' => ∃ v' ρ', e = .returned v' ∧ VR ρ' v v' ∧ Post P G hp hp' ρ ρ' w w'
theorem KnOk.all {f : FuncId} {kf : List Value → Hp → R} (h : KnOk P G f kf) {sy : Nat → Value} {wd : World → Prop} : zqe P G sy wd f kf :=
 fun args hp v hp' h1 ρ w args' _ _ h2 h3 h4 => (h args hp v hp' h1 ρ w args' h2 h3 h4).mono fun _ _ ⟨v', ρ', e1, e2, e3⟩ => ⟨v', ρ', e3, .inl ⟨e1, e2⟩⟩
theorem zta {f : FuncId} (hj : zm0 P f) : KnOk P G f zzb := by
 intro args hp v hp' h ρ w args' hs _ hl
 unfold zzb at h
 split at h
 · rename_i x sep
   obtain ⟨a, n, c, hx0, h1⟩ := zbw h
   obtain ⟨a1, ha1, h2⟩ := zaq h1
   obtain ⟨b, o, ha2, h3⟩ := zci h2
   obtain ⟨hb, h4⟩ := zaw h3
   clear h h1 h2 h3
   subst hx0 ha1 ha2
   obtain ⟨hb1, hb⟩ := za5 hb
   obtain ⟨hb2, hb3⟩ := za5 hb
   have hb1 := Nat.le_of_ble_eq_true hb1
   have hb2 := Nat.le_of_ble_eq_true hb2
   have hb3 := Nat.le_of_ble_eq_true hb3
   have hmost : most = 16777216 := rfl
   obtain ⟨ct, hv, h5⟩ := zcz h4
   obtain ⟨l, hrd, h6⟩ := zaq h5
   obtain ⟨xs, hxs, h7⟩ := zaq h6
   clear h4 h5 h6
   rw [zjy] at h7
   obtain ⟨hr, h⟩ := zaw h7
   have hr := Nat.le_of_ble_eq_true hr
   cases h
   cases hl with
   | cons _ x' _ l1 hx hl =>
   cases hl with
   | cons _ s' _ l2 hs' hl =>
   cases hl
   cases hs'
   obtain ⟨_, hc⟩ := zbn hs hv
   obtain ⟨hlen, hget⟩ := za6 ct n o l hrd
   have hvis : ∃ q, hp.vis b = some q := by rcases hv with ⟨_, _, h⟩ | h <;> exact ⟨_, h⟩
   obtain ⟨q, hq⟩ := hvis
   obtain ⟨_, hlt, _⟩ := hs.vis b q hq
   obtain ⟨l', hl1, hl2, hl3, _⟩ := zf1 (P := P) hc hrd
   obtain ⟨e1, e2⟩ := znc hxs hl1
   have hn : n = xs.length := by rw [← e2, hlen]
   subst hn
   have cells : ∀ (j : Nat) y, xs[j]? = some y → w.cell? ⟨ρ.blk b, (ρ.sh b + o) + j, none⟩ = some (.string y) := by
    intro j y hy
    have hj : j < xs.length := by
     rcases Nat.lt_or_ge j xs.length with h | h
     · exact h
     · rw [List.getElem?_eq_none h] at hy; cases hy
    have hlj : l[j]? = some (.string y) := znd hxs hy
    have := hget j hj
    rw [hlj] at this
    obtain ⟨_, v', h5, h6⟩ := hc (o + j) _ this
    cases h6
    rw [Nat.add_assoc]
    exact h5
   have fin : ∀ c', xs.length ≤ c' → Calls P f #[.slice (some ⟨ρ.blk b, ρ.sh b + o, none⟩) xs.length c', .string sep] w fun e w' => ∃ v' ρ', e = .returned v' ∧ VR ρ' (.string ⟨⟨Lib.join (xs.map (·.data.toList)) sep.data.toList⟩⟩) v' ∧ Post P G hp hp ρ ρ' w w' := fun c' hc' =>
    (hj _ _ c' xs sep w cells hlt (by omega) hc' (by omega)).mono fun e w' ⟨he, hB⟩ => ⟨_, ρ, he, .string _, Post.below hs hB⟩
   cases hx with
   | slice _ _ _ _ hok hcb => exact fin _ hb2
   | openS _ _ _ y c' hok h1 h2 h3 h4 =>
    have := h3 (by omega)
    subst this
    exact fin _ h1
 · cases h
noncomputable section
def zzz (l : List Value) (sep : Value) : List (List Value × Value × Value) → Option Value
 | [] => none
 | (a, s, r) :: E => cond (andB (eq0s a l) (eq0 s sep)) (some r) (zzz l sep E)
def zza (E : List (List Value × Value × Value)) (args : List Value) (hp : Hp) : R :=
 match args with
 | [v, sep] => zcm v .no fun a n c => zaf a .no fun a => zc0 a .no fun b o => pick (andB (Nat.ble 1 n) (andB (Nat.ble n c) (Nat.ble n most)))
  (onRead (hp.vis b) .no fun ct => zaf (za8 ct o n) .no fun l => zaf (zzz l sep E) .no fun r => .ok r hp) .no
 | _ => .no
end
structure JOk (σ : Nat → Value) (x : List Value × Value × Value) : Prop where
 pl : spL0 x.1 = true
 ps : sp0 x.2.1 = true
 pr : sp0 x.2.2 = true
 ex : ∃ (xs : List ByteArray) (sep : ByteArray), x.1.map (in0 σ) = xs.map .string ∧ in0 σ x.2.1 = .string sep ∧ in0 σ x.2.2 = .string ⟨(Lib.join (xs.map (·.data.toList)) sep.data.toList).toArray⟩ ∧
  (Lib.join (xs.map (·.data.toList)) sep.data.toList).length ≤ 140737488355328
theorem zrs {l : List Value} {sep r : Value} : ∀ {E : List (List Value × Value × Value)}, zzz l sep E = some r → (l, sep, r) ∈ E
 | [], h => by cases h
 | (a, s, u) :: E, h => by
  unfold zzz at h
  cases hc : andB (eq0s a l) (eq0 s sep) with
  | false =>
   rw [hc] at h
   exact .tail _ (zrs h)
  | true =>
   rw [hc] at h
   cases h
   obtain ⟨h1, h2⟩ := za5 hc
   obtain rfl := zpv h1
   obtain rfl := zwn h2
   exact .head _
theorem zpl {f : FuncId} (hj : zm0 P f) {E : List (List Value × Value × Value)} {σ : Nat → Value} (hE : ∀ x ∈ E, JOk σ x) {wd : World → Prop} : zqe P G σ wd f (zza E) := by
 intro args hp v hp' h ρ w args' hsy _ hs _ hl
 subst hsy
 unfold zza at h
 split at h
 · rename_i x sep
   obtain ⟨a, n, c, hx0, h1⟩ := zbw h
   obtain ⟨a1, ha1, h2⟩ := zaq h1
   obtain ⟨b, o, ha2, h3⟩ := zci h2
   obtain ⟨hb, h4⟩ := zaw h3
   clear h h1 h2 h3
   subst hx0 ha1 ha2
   obtain ⟨hb1, hb⟩ := za5 hb
   obtain ⟨hb2, hb3⟩ := za5 hb
   have hb1 := Nat.le_of_ble_eq_true hb1
   have hb2 := Nat.le_of_ble_eq_true hb2
   have hb3 := Nat.le_of_ble_eq_true hb3
   have hmost : most = 16777216 := rfl
   obtain ⟨ct, hv, h5⟩ := zcz h4
   obtain ⟨l, hrd, h6⟩ := zaq h5
   obtain ⟨r, hfr, h7⟩ := zaq h6
   clear h4 h5 h6
   cases h7
   obtain ⟨hpl, hps, hpr, xs, sp, ex1, ex2, ex3, ex4⟩ := hE _ (zrs hfr)
   replace hpl : spL0 l = true := hpl
   replace ex1 : l.map (in0 ρ.sym) = xs.map .string := ex1
   replace ex2 : in0 ρ.sym sep = .string sp := ex2
   replace ex3 : in0 ρ.sym v = .string ⟨(Lib.join (xs.map (·.data.toList)) sp.data.toList).toArray⟩ := ex3
   cases hl with
   | cons _ x' _ l1 hx hl =>
   cases hl with
   | cons _ s' _ l2 hs' hl =>
   cases hl
   have hs2 := zqu hps hs'
   rw [ex2] at hs2
   subst hs2
   obtain ⟨_, hc⟩ := zbn hs hv
   obtain ⟨hlen, hget⟩ := za6 ct n o l hrd
   have hvis : ∃ q, hp.vis b = some q := by rcases hv with ⟨_, _, h⟩ | h <;> exact ⟨_, h⟩
   obtain ⟨q, hq⟩ := hvis
   obtain ⟨_, hlt, _⟩ := hs.vis b q hq
   have hn : n = xs.length := by
    have := congrArg List.length ex1
    simp only [List.length_map] at this
    omega
   subst hn
   have cells : ∀ (j : Nat) y, xs[j]? = some y → w.cell? ⟨ρ.blk b, (ρ.sh b + o) + j, none⟩ = some (.string y) := by
    intro j y hy
    have hj : j < xs.length := by
     rcases Nat.lt_or_ge j xs.length with h | h
     · exact h
     · rw [List.getElem?_eq_none h] at hy; cases hy
    have hlj : l[j]? = some (l[j]'(by omega)) := List.getElem?_eq_getElem (by omega)
    have h1 := hget j hj
    rw [hlj] at h1
    obtain ⟨_, v', h5, h6⟩ := hc (o + j) _ h1
    have h7 := zqu (zfz hpl _ (List.getElem_mem (by omega))) h6
    have h8 : (l.map (in0 ρ.sym))[j]? = some (.string y) := by rw [ex1, List.getElem?_map, hy]; rfl
    rw [List.getElem?_map, hlj] at h8
    rw [Option.some.inj h8] at h7
    subst h7
    rw [Nat.add_assoc]
    exact h5
   have fin : ∀ c', xs.length ≤ c' → Calls P f #[.slice (some ⟨ρ.blk b, ρ.sh b + o, none⟩) xs.length c', .string sp] w fun e w' => yaw P G hp hp ρ w v e w' := fun c' hc' =>
    (hj _ _ c' xs sp w cells hlt (by omega) hc' ex4).mono fun e w' ⟨he, hB⟩ => ⟨_, ρ, Post.below hs hB, .inl ⟨he, by rw [← ex3]; exact zqt hpr⟩⟩
   cases hx with
   | slice _ _ _ _ hok hcb => exact fin _ hb2
   | openS _ _ _ y c' hok h1 h2 h3 h4 =>
    have := h3 (by omega)
    subst this
    exact fin _ h1
 · cases h
noncomputable section
def zzy (args : List Value) : List (List Value × List Value) → Option (List Value)
 | [] => none
 | (a, l) :: E => cond (eq1s a args) (some l) (zzy args E)
def rowS (e : TypeId) (need : List Nat) (E : List (List Value × List Value)) (args : List Value) (hp : Hp) : R :=
 zaf (zzy args E) .no fun l => pick (andB (seen hp need) (Nat.blt l.length big)) (xnew hp (.cells (T.setList l .leaf 0) l.length e) fun b hp => .ok (.slice (some ⟨b, 0, none⟩) l.length l.length) hp) .no
end
theorem zrr {args l : List Value} : ∀ {E : List (List Value × List Value)}, zzy args E = some l → (args, l) ∈ E
 | [], h => by cases h
 | (a, s) :: E, h => by
  unfold zzy at h
  cases hc : eq1s a args with
  | false => rw [hc] at h; exact .tail _ (zrr h)
  | true =>
   rw [hc] at h
   cases h
   obtain rfl := zjz hc
   exact .head _
theorem zso {f : FuncId} {e : TypeId} {E : List (List Value × List Value)} {σ : Nat → Value} {wd : World → Prop}
 (hE : ∀ x ∈ E, spL1 x.1 = true ∧ spL0 x.2 = true ∧ ∀ w, wd w → Calls P f ⟨x.1.map (in1 σ)⟩ w fun r w' => r = .returned (.slice (some ⟨w.heap.size, 0, none⟩) x.2.length x.2.length) ∧ w' = World.more w (.cells (x.2.map (in0 σ)).toArray e)) : zqe P G σ wd f (rowS e G.need E) := by
 intro args hp v hp' h ρ w args' hsy hwd hs hfr hl
 subst hsy
 obtain ⟨l, hfl, h1⟩ := zaq h
 obtain ⟨hc, h2⟩ := zaw h1
 obtain ⟨hse, hbig⟩ := za5 hc
 rw [zec] at h2
 cases h2
 obtain ⟨k1, k2, k3⟩ := hE _ (zrr hfl)
 rw [ziv k1 hl]
 refine (k3 w (hwd hse)).mono fun r w' ⟨hr, hw⟩ => ?_
 obtain ⟨ρ', r1, r2, r3, r4, _⟩ := zma hs (hfr hp.next (Nat.le_refl _)) e (zo6 k2) (fun v hv => zo7 (zfz k2 v hv))
 subst hr hw
 refine ⟨_, ρ', r1, .inl ⟨rfl, ?_⟩⟩
 have := VR.slice (ρ := ρ') hp.next 0 l.length l.length r4 (Nat.lt_of_lt_of_le (Nat.lt_succ_self _) (Nat.le_of_ble_eq_true hbig))
 rwa [r2, r3] at this
noncomputable section
end
theorem zum (hf : P.follows .mixedOrders = true) {g : Nat} {need : List Nat} {facts : List OFact} {tab : List (FuncId × List Value × Value)} {kn : FuncId → Option (List Value → Hp → R)} {l : List Tab} {σ : Nat → Value} (one : ∀ i, oneC (σ i) = true) {w : World}
 (hl : ∀ x ∈ l, x.1 < g ∧ x.1 < w.heap.size ∧ spL0 x.2 = true) (hc : ∀ x ∈ l, ∀ (i : Nat) (v : Value), x.2[i]? = some v → w.cell? ⟨x.1, i, none⟩ = some (in0 σ v)) (hn : ∀ n ∈ need, n < g)
 (h1 : ∀ F ∈ facts, FOk P σ (fun W => ∀ n ∈ need, n < w.heap.size → W.heap[n]? = w.heap[n]?) F) (h2 : ∀ x ∈ tab, TOk P σ (fun W => ∀ n ∈ need, n < w.heap.size → W.heap[n]? = w.heap[n]?) x)
 (hk : ∀ f kf, kn f = some kf → zqe P ⟨g, need, facts, tab, kn⟩ σ (fun W => ∀ n ∈ need, n < w.heap.size → W.heap[n]? = w.heap[n]?) f kf)
 {fuel : Nat} {f : FuncId} {args : List Value} {v : Value} (h : gives (xfun P ⟨g, need, facts, tab, kn⟩ fuel f args (zd7 g l)) v = true) (ha : spL1 args = true) (hv : sp2 v = true) :
 Calls P f ⟨args.map (in1 σ)⟩ w fun e w' => e = .returned (in2 σ v) ∧ Below w.heap.size w w' := by
 have hw : ∀ W, Wd ⟨g, need, facts, tab, kn⟩ (fun n => n) (zs4 w fun n => n) W → ∀ n ∈ need, n < w.heap.size → W.heap[n]? = w.heap[n]? := fun W hW n hn hlt => zqm hW hn hlt
 have c : CtxA P ⟨g, need, facts, tab, kn⟩ (zd7 g l) (rhoB g (fun n => n) σ one w) w := by
  refine ybh one (Nat.le_refl _) (fun _ _ => rfl) (fun x hx => ⟨(hl x hx).1, (hl x hx).2.2⟩) (fun x hx => (hl x hx).2.1) (fun x _ y _ e => e) hc hn ⟨fun F hF => ?_, fun x hx => ?_⟩ (fun f kf hkf args hp v hp' h1 ρ W args' hsy hob hs hfr hl => hk f kf hkf args hp v hp' h1 ρ W args' hsy (fun hse n hn hlt => by have h2 := zl0 hs hse n hn; obtain ⟨h3, h4⟩ := hob n hn; rw [h3, h4] at h2; rw [h2]; show some ((w.heap[n]?).getD _) = _; rw [Array.getElem?_eq_getElem hlt]; rfl) hs hfr hl)
  · obtain ⟨k1, k2, k3⟩ := h1 F hF
    exact ⟨k1, k2, fun o ev ht he W hW => k3 o ev ht he W fun m => hw W (hW m)⟩
  · obtain ⟨k1, k3⟩ := h2 x hx
    exact ⟨k1, fun W hW => k3 W (hw W hW)⟩
 exact zqi (ye3 hf) (hp := zd7 g l) rfl h ha hv c
end Go.Proofs.YtelanmknimapoaaGreatDoor.Sx
/- An executor of runs: tables of arrays and structs, as a row lists them. -/
namespace Go.Proofs.YtelanmknimapoaaGreatDoor.Sx
open Go Go.RowKit Go.Lib
variable {P : Program}
section
variable {H : Type}
def zco : Nat → DataW H → List Value
 | 0, _ => []
 | f + 1, d => match d with
  | .lit (.int k z) => [.int k z]
  | .lit (.string b) => [.string ⟨⟨b⟩⟩]
  | .lit (.bool b) => [.bool b]
  | .agg l => l.flatMap (zco f)
  | _ => [undef]
def zr3 (P : Program) (n : Nat) : List Field → Nat → Bool
 | [], o => Nat.beq o n
 | x :: l, o => Nat.beq x.offset o && zr3 P n l (o + P.cellsOf x.type)
def zwg (P : Program) : Nat → TypeId → Bool
 | 0, _ => false
 | f + 1, t => match P.underlying t with
  | some (.int _) | some .string | some .bool => true
  | some (.struct fs) => fs.toList.all (fun x => zwg P f x.type) && zr3 P (P.cellsOf t) fs.toList 0
  | some (.array n e) => zwg P f e && Nat.beq (P.cellsOf t) (n * P.cellsOf e)
  | _ => false
def zsc {α : Type} (off sz : α → Nat) (n : Nat) : List α → Nat → Prop
 | [], o => o = n
 | a :: l, o => off a = o ∧ zsc off sz n l (o + sz a)
theorem chunks {α β : Type} {cs : List Value} {n : Nat} {off sz : α → Nat} {g : α → Option β} {fl : β → List Value} (hl : cs.length = n) : ∀ (l : List α) (o : Nat) (xs : List β), zsc off sz n l o → l.mapM g = some xs →
 (∀ a ∈ l, ∀ x, g a = some x → (cs.drop (off a)).take (sz a) = fl x) → cs.drop o = xs.flatMap fl
 | [], o, xs, hc, hm, _ => by
  cases hm
  have : o = n := hc
  rw [List.drop_eq_nil_of_le (by omega)]; rfl
 | a :: l, o, xs, hc, hm, hg => by
  obtain ⟨h1, h2⟩ := hc
  cases hga : g a with
  | none => simp [List.mapM_cons, hga] at hm
  | some x =>
   cases hml : l.mapM g with
   | none => simp [List.mapM_cons, hga, hml] at hm
   | some ys =>
    simp [List.mapM_cons, hga, hml] at hm
    subst hm
    have ih := chunks (g := g) (fl := fl) hl l _ ys h2 hml (fun b hb => hg b (.tail _ hb))
    have h3 := hg a (.head _) x hga
    rw [h1] at h3
    rw [List.flatMap_cons, ← h3, ← ih, ← List.drop_drop, List.take_append_drop]
theorem zof {n : Nat} : ∀ (l : List Field) (o : Nat), zr3 P n l o = true → zsc (fun x : Field => x.offset) (fun x : Field => P.cellsOf x.type) n l o
 | [], o, h => Nat.eq_of_beq_eq_true h
 | x :: l, o, h => by
  unfold zr3 at h
  rw [Bool.and_eq_true] at h
  exact ⟨Nat.eq_of_beq_eq_true h.1, zof l _ h.2⟩
theorem zhu (c : Nat) : ∀ (k s : Nat), zsc (fun i => i * c) (fun _ => c) ((s + k) * c) (List.range' s k) (s * c)
 | 0, s => by show s * c = (s + 0) * c; rw [Nat.add_zero]
 | k + 1, s => by
  refine ⟨rfl, ?_⟩
  have := zhu c k (s + 1)
  rw [show s + (k + 1) = s + 1 + k by omega]
  rw [show s * c + c = (s + 1) * c by rw [Nat.succ_mul]]
  exact this
theorem zuh {enc : TypeId × Value → H} {w : World} {base : Nat} {spx : Nat → Bool} {held : Bool} : ∀ (f fuel : Nat) (t : TypeId) (cs : List Value) (d : DataW H) (p : List MemPlace),
 zwg P f t = true → DataW.trod enc P w base spx held fuel t cs = some (d, p) → cs = zco f d := by
 intro f
 induction f with
 | zero => intro fuel t cs d p h; cases h
 | succ f ih =>
  intro fuel t cs d p hT h
  cases fuel with
  | zero => simp [DataW.trod] at h
  | succ fuel =>
   unfold zwg at hT
   split at hT
   · rename_i k hu
     obtain ⟨z, rfl, e, _⟩ := DataW.trod_int hu h
     cases e; rfl
   · rename_i hu
     obtain ⟨z, rfl, e, _⟩ := DataW.trod_string hu h
     cases e; rfl
   · rename_i hu
     simp only [DataW.trod, hu] at h
     split at h <;> first | (cases h; done) | skip
     all_goals (try rename_i e; try cases e)
     all_goals (try (simp at h; done))
     all_goals (try (cases h; rfl))
   · rename_i fs hu
     rw [Bool.and_eq_true] at hT
     simp only [DataW.trod, hu] at h
     split at h
     · rename_i hl
       obtain ⟨ys, hm, hx⟩ := Option.map_eq_some_iff.1 h
       cases hx
       have := chunks (fl := fun y : DataW H × List MemPlace => zco f y.1) hl fs.toList 0 ys (zof _ _ hT.2) hm
        (fun x hx y hy => ih _ _ _ y.1 y.2 (List.all_eq_true.1 hT.1 x hx) hy)
       rw [List.drop_zero] at this
       rw [this]
       show _ = (ys.map (·.1)).flatMap (zco f)
       rw [List.flatMap_map]
     · cases h
   · rename_i n e hu
     rw [Bool.and_eq_true] at hT
     simp only [DataW.trod, hu] at h
     split at h
     · rename_i hl
       obtain ⟨ys, hm, hx⟩ := Option.map_eq_some_iff.1 h
       cases hx
       have hn : P.cellsOf t = n * P.cellsOf e := Nat.eq_of_beq_eq_true hT.2
       have hc := zhu (P.cellsOf e) n 0
       rw [Nat.zero_add, Nat.zero_mul, ← List.range_eq_range'] at hc
       have := chunks (fl := fun y : DataW H × List MemPlace => zco f y.1) (hl.trans hn) (List.range n) 0 ys hc hm
        (fun x hx y hy => ih _ _ _ y.1 y.2 hT.1 hy)
       rw [List.drop_zero] at this
       rw [this]
       show _ = (ys.map (·.1)).flatMap (zco f)
       rw [List.flatMap_map]
     · cases h
   · cases hT
end
theorem zdn {w : World} {name : String} {data : DataW Unit} {rest : List (String × DataW Unit)} {g : Nat} {t : TypeId} (f : Nat)
 (hg : P.globalNamed name = some g) (hty : (P.globals[g]?).map (·.type) = some t) (ht : zwg P f t = true)
 (h : laidMet P ((name, data) :: rest) w) : ∀ (i : Nat) (v : Value), (zco f data)[i]? = some v → w.cell? ⟨g, i, none⟩ = some v := by
 obtain ⟨ps, ⟨g', t', cs, fuel, p, q, hg', ht', hvar, hd', _, _⟩, _⟩ := h
 obtain rfl := Option.some.inj (hg.symm.trans hg')
 obtain rfl := Option.some.inj (hty.symm.trans ht')
 have e1 := zuh _ _ _ _ _ _ ht hd'
 intro i v hi
 have h1 := World.var?_cell hg hvar i
 have h2 : cs[i]? = cs.toList[i]? := by simp
 rw [h1, h2, e1]
 exact hi
def zsh (P : Program) (g : Nat) : TypeId := ((P.globals[g]?).map (·.type)).getD 0
def zmf (P : Program) (g : Nat) : Bool :=
 match P.globals[g]? with
 | some x => match P.underlying x.type with
  | some (.interface _) => true
  | _ => false
 | none => false
theorem zpo {g : Nat} (h : zmf P g = true) : ∃ t ms, (P.globals[g]?).map (·.type) = some t ∧ P.underlying t = some (.interface ms) := by
 unfold zmf at h
 split at h
 · rename_i x hx
   split at h
   · rename_i ms hm
     exact ⟨x.type, ms, by rw [hx]; rfl, hm⟩
   · cases h
 · cases h
theorem zla {w : World} {name : String} {data : DataW Unit} {rest : List (String × DataW Unit)} {g : Nat}
 (hg : P.globalNamed name = some g) (hi : zmf P g = true)
 (h : laidMet P ((name, data) :: rest) w) : ∃ v, oneC v = true ∧ w.cell? ⟨g, 0, none⟩ = some v := by
 obtain ⟨t, ms, hty, ht⟩ := zpo hi
 obtain ⟨ps, ⟨g', t', cs, fuel, p, q, hg', ht', hvar, hd', _, _⟩, _⟩ := h
 obtain rfl := Option.some.inj (hg.symm.trans hg')
 obtain rfl := Option.some.inj (hty.symm.trans ht')
 have h1 := World.var?_cell hg hvar 0
 have key : ∃ v, oneC v = true ∧ cs.toList = [v] := by
  cases fuel with
  | zero => simp [DataW.trod] at hd'
  | succ fuel =>
   simp only [DataW.trod, ht] at hd'
   split at hd' <;> first | (cases hd'; done) | skip
   all_goals (try rename_i e; try cases e)
   all_goals first | exact ⟨_, rfl, by assumption⟩ | skip
   all_goals (try (simp at hd'; done))
 obtain ⟨v, hv, hc⟩ := key
 refine ⟨v, hv, ?_⟩
 rw [h1]
 have h2 : cs[0]? = cs.toList[0]? := by simp
 rw [h2, hc]; rfl
end Go.Proofs.YtelanmknimapoaaGreatDoor.Sx
/- An executor of runs: long runs in segments, nested frames among them. -/
namespace Go.Proofs.YtelanmknimapoaaGreatDoor.Sx
open Go Go.RowKit
variable {P : Program} {G : Env}
def Lead (P : Program) (G : Env) (S : St) (dfs : List Df) (todo : List AItem) (tm : T Value) (hp : Hp) (v : Value) (hp' : Hp) : Prop :=
 ∀ ρ w b a todo' cs, CtxA P G hp ρ w → FS P ρ S dfs tm b a → TR ρ todo todo' → (zeu S → cs ≠ []) → Concl P G S hp hp' ρ w v (b.atR a todo') cs
noncomputable section
/-! What nobody needs is let go. -/
end
end Go.Proofs.YtelanmknimapoaaGreatDoor.Sx
