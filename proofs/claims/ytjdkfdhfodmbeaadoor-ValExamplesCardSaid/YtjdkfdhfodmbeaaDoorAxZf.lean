/- An executor of closed runs: drawn regions (10): an operation done when it is ready. -/
import Derived.Test.YtjdkfdhfodmbeaaDoorAxZe
namespace Go.Proofs.YtjdkfdhfodmbeaaDoor.Ax
open Go
variable {P : Program} {G : Nat}

/-- Names below the region's head that may have been written. -/
def Wr (X : Nat → Ent) (D : Nat → Prop) (m : Nat) : Prop :=
  ((X 0).hp.lim ≤ m ∧ m < nx X 0) ∨ m ∈ (X 0).hp.wr ∨ (m < (X 0).hp.lim ∧ ∃ r, D r ∧ (X r).dn = true ∧ m ∈ (X r).q.wr)

/-- What holds when the operations of D are done. -/
structure Inv (P : Program) (sz : Nat) (O : Nat → Oper) (X : Nat → Ent) (ρ : Rho) (w0 : World) (df : List Deferred) (D : Nat → Prop) (ρD : Rho) (a : Act) (w : World) : Prop where
  le : ρ.Le ρD
  ok : ∀ m, ρD.ok m ↔ ρ.ok m ∨ ∃ r, D r ∧ (X r).dn = true ∧ nx X r ≤ m ∧ m < nx X (r + 1)
  mem : ∀ m o N, hidden (X 0).hp.hid m = false ∨ (X 0).hp.lim ≤ m → Mem X D m o N → ρD.ok m ∧ ρD.blk m < w.heap.size ∧ m < N ∧ objSat P (ρD.cut N) w m o
  inj : ∀ m m' o o' N N', hidden (X 0).hp.hid m = false ∨ (X 0).hp.lim ≤ m → hidden (X 0).hp.hid m' = false ∨ (X 0).hp.lim ≤ m' → Mem X D m o N → Mem X D m' o' N' → ρD.blk m = ρD.blk m' → m = m'
  tsz : a.tmps.size = sz
  tm1 : ∀ t r, D r → (O r).dst = some t → VR (ρD.cut (nx X (r + 1))) (evA (X (r + 1)).tm (.tmp t)) (a.tmps.getD t undef)
  tm0 : ∀ t, (∀ r, D r → (O r).dst ≠ some t) → VR (ρD.cut (nx X 0)) (evA (X 0).tm (.tmp t)) (a.tmps.getD t undef)
  df : a.defers = df
  size : w0.heap.size ≤ w.heap.size
  frame : ∀ b, b < w0.heap.size → (∀ m, ρ.ok m → Wr X D m → ρ.blk m ≠ b) → w.heap[b]? = w0.heap[b]?
  fresh : ∀ r m, D r → (X r).dn = true → nx X r ≤ m → m < nx X (r + 1) → w0.heap.size ≤ ρD.blk m ∨ ∃ m', ρ.ok m' ∧ Wr X D m' ∧ ρD.blk m = ρ.blk m'
  os : w.os = w0.os
  tape : w.tape = w0.tape
  output : w.output = w0.output

section
variable {run : Run} {ops : Array Oper} {sz n : Nat} {ms : T Nat} {J : Nat → Nat} {O : Nat → Oper} {X : Nat → Ent}

theorem Wr.mono {D D' : Nat → Prop} (h : ∀ r, D r → D' r) {m : Nat} (hw : Wr X D m) : Wr X D' m :=
  hw.imp id (·.imp id fun ⟨h1, r, h2, h3⟩ => ⟨h1, r, h r h2, h3⟩)

/-- Where an operation's answer goes. -/
theorem put_at {a : Act} {dst : Option Tmp} {v : Value} (t : Nat) : (a.put dst v).tmps.getD t undef = if dst = some t ∧ t < a.tmps.size then v else a.tmps.getD t undef := by
  cases dst with
  | none => simp [Act.put]
  | some d =>
    simp only [Act.put, Array.getD_eq_getD_getElem?, Array.getElem?_setIfInBounds]
    by_cases e : d = t
    · subst e
      by_cases h : d < a.tmps.size
      · simp [h]
      · rw [if_pos rfl, if_neg h, if_neg (fun x => h x.2)]
        simp [h]
    · rw [if_neg e, if_neg (fun x => e (Option.some.inj x.1))]
theorem put_size {a : Act} {dst : Option Tmp} {v : Value} : (a.put dst v).tmps.size = a.tmps.size := by
  cases dst <;> simp [Act.put]
theorem put_defers {a : Act} {dst : Option Tmp} {v : Value} : (a.put dst v).defers = a.defers := by
  cases dst <;> rfl

/-- Places between which nobody wrote a temporary. -/
theorem Reg.tm_back (R : Reg P G run ops sz n ms J O X) {t a p : Nat} (ha : a ≤ p) (hp : p ≤ n) (hn : ∀ s, a ≤ s → s < p → (O s).dst ≠ some t) : evA (X p).tm (.tmp t) = evA (X a).tm (.tmp t) := by
  induction p with
  | zero => have : a = 0 := by omega
            subst this; rfl
  | succ p ih =>
    by_cases e : a = p + 1
    · subst e; rfl
    · rw [← ih (by omega) (by omega) fun s h1 h2 => hn s h1 (by omega)]
      have hne := hn p (by omega) (by omega)
      rcases R.cases (p := p) (by omega) with ⟨_, g⟩ | ⟨_, g⟩
      · rw [g.tm, if_neg fun h => hne h.1]
      · rw [g.tm, if_neg fun h => hne h.1]

theorem Reg.big (R : Reg P G run ops sz n ms J O X) {t : Nat} (ht : sz ≤ t) : ∀ p, p ≤ n → evA (X p).tm (.tmp t) = undef
  | 0, _ => R.tbig t ht
  | p + 1, hp => by
    rcases R.cases (p := p) (by omega) with ⟨_, g⟩ | ⟨_, g⟩
    · rw [g.tm, if_neg fun h => absurd h.2 (Nat.not_lt.2 ht)]; exact R.big ht p (by omega)
    · rw [g.tm, if_neg fun h => absurd h.2 (Nat.not_lt.2 ht)]; exact R.big ht p (by omega)
theorem getD_big {a : Array Value} {t : Nat} (h : a.size ≤ t) : a.getD t undef = undef := by
  rw [Array.getD_eq_getD_getElem?, Array.getElem?_eq_none h]; rfl

variable {ρ : Rho} {w0 : World} {df : List Deferred} {D : Nat → Prop} {ρD : Rho} {a : Act} {w : World}

/-- A temporary that p names, or its guard. -/
theorem Inv.tmp (R : Reg P G run ops sz n ms J O X) {p : Nat} (rd : Ready n ms J D p) (I : Inv P sz O X ρ w0 df D ρD a w) {t : Nat}
    (hn : ∀ r, r < n → (O r).dst = some t → r ≠ p ∧ (bit (natAt ms (J p)) (J r) = true ∨ bit (natAt ms (J r)) (J p) = true)) :
    VR (ρD.cut (nx X p)) (evA (X p).tm (.tmp t)) (a.tmps.getD t undef) := by
  have hpn := rd.lt
  by_cases h : ∃ r, r < n ∧ (O r).dst = some t
  · obtain ⟨r, hr, ht⟩ := h
    have only : ∀ s, s < n → s ≠ r → (O s).dst ≠ some t := fun s hs hne e => hne (R.uniq s r t hs hr e ht)
    obtain ⟨hne, hb | hb⟩ := hn r hr ht
    · have hrp := R.bef p r hpn hr hb
      rw [R.tm_back (a := r + 1) (by omega) (by omega) fun s h1 h2 => only s (by omega) (by omega)]
      exact (I.tm1 t r (rd.pre r hr hb) ht).mono (Rho.cut_mono (.refl _) (R.mono (by omega) (by omega)))
    · have hpr := R.bef r p hr hpn hb
      rw [R.tm_back (a := 0) (by omega) (by omega) fun s h1 h2 => only s (by omega) (by omega)]
      refine (I.tm0 t fun s hs e => ?_).mono (Rho.cut_mono (.refl _) (R.mono (by omega) (by omega)))
      have : s = r := R.uniq s r t (rd.dlt s hs) hr e ht
      subst this
      exact rd.new (rd.closed s p hs hpn hb)
  · have only : ∀ s, s < n → (O s).dst ≠ some t := fun s hs e => h ⟨s, hs, e⟩
    rw [R.tm_back (a := 0) (by omega) (by omega) fun s h1 h2 => only s (by omega)]
    exact (I.tm0 t fun s hs => only s (rd.dlt s hs)).mono (Rho.cut_mono (.refl _) (R.mono (by omega) (by omega)))

/-- An operation whose guard says no. -/
theorem Inv.skip (R : Reg P G run ops sz n ms J O X) {p : Nat} (rd : Ready n ms J D p) (I : Inv P sz O X ρ w0 df D ρD a w) (hd : (X p).dn = false) : Inv P sz O X ρ w0 df (fun s => D s ∨ s = p) ρD (a.put (O p).dst undef) w := by
  have hpn := rd.lt
  have g := R.skip hpn hd
  have noT : ∀ m, ¬ Touch X p m := fun m h => by have := h.1; rw [hd] at this; cases this
  have memD : ∀ m o N, Mem X (fun s => D s ∨ s = p) m o N → Mem X D m o N := by
    intro m o N h
    cases h with
    | init h1 h2 => exact .init (fun s hs => h1 s (.inl hs)) h2
    | last r h1 h2 h3 h4 =>
      rcases h1 with h1 | rfl
      · exact .last r h1 h2 (fun s hs => h3 s (.inl hs)) h4
      · exact absurd h2 (noT m)
  have hp1 : ∀ r, (D r ∨ r = p) ∧ (X r).dn = true → D r := by
    rintro r ⟨h1 | rfl, h2⟩
    · exact h1
    · rw [hd] at h2; cases h2
  have wrD : ∀ m, Wr X D m → Wr X (fun s => D s ∨ s = p) m := fun m h => h.mono fun r h => .inl h
  refine ⟨I.le, fun m => ?_, fun m o N h1 h2 => I.mem m o N h1 (memD m o N h2), fun m m' o o' N N' h1 h2 h3 h4 => I.inj m m' o o' N N' h1 h2 (memD _ _ _ h3) (memD _ _ _ h4), by rw [put_size]; exact I.tsz,
    fun t r hr ht => ?_, fun t ht => ?_, by rw [put_defers]; exact I.df, I.size, fun b h1 h2 => I.frame b h1 fun m h3 h4 => h2 m h3 (wrD m h4), fun r m h1 h2 h3 h4 => ?_, I.os, I.tape, I.output⟩
  · rw [I.ok]
    refine or_congr Iff.rfl ⟨fun ⟨r, h1, h2⟩ => ⟨r, .inl h1, h2⟩, fun ⟨r, h1, h2⟩ => ⟨r, hp1 r ⟨h1, h2.1⟩, h2⟩⟩
  · rw [put_at, I.tsz]
    rcases hr with hr | rfl
    · have : (O p).dst ≠ some t := fun e => rd.new (R.uniq r p t (rd.dlt r hr) hpn ht e ▸ hr)
      rw [if_neg fun h => this h.1]
      exact I.tm1 t r hr ht
    · rw [g.tm]
      by_cases h : t < sz
      · rw [if_pos ⟨ht, h⟩, if_pos ⟨ht, h⟩]; exact VR.undef
      · rw [if_neg fun x => h x.2, if_neg fun x => h x.2]
        rw [R.big (t := t) (Nat.le_of_not_lt h) r (Nat.le_of_lt hpn), getD_big (by rw [I.tsz]; exact Nat.le_of_not_lt h)]; exact VR.undef
  · rw [put_at, if_neg fun h => ht p (.inr rfl) h.1]
    exact I.tm0 t fun r hr => ht r (.inl hr)
  · rcases I.fresh r m (hp1 r ⟨h1, h2⟩) h2 h3 h4 with h | ⟨m', h5, h6, h7⟩
    · exact .inl h
    · exact .inr ⟨m', h5, wrD m' h6, h7⟩

/-- An operation that is done. -/
theorem Inv.go (R : Reg P G run ops sz n ms J O X) {p : Nat} (rd : Ready n ms J D p) (I : Inv P sz O X ρ w0 df D ρD a w) (hd : (X p).dn = true) (hF : ∀ s, s < p → Facts ms J X s) (hFD : ∀ s, D s → Facts ms J X s)
    (h0 : ∀ m, ρ.ok m → m < nx X 0) {v' : Value} {ρ' : Rho} {w1 : World} (hv : VR ρ' (X p).v v')
    (hp : Post P G ⟨(X p).hp.h, (X p).hp.next, hdOf ms J X p, [], (X p).hp.next⟩ (X p).q (ρD.cut (nx X p)) ρ' w w1) :
    Facts ms J X p ∧ ∃ ρ1, Inv P sz O X ρ w0 df (fun s => D s ∨ s = p) ρ1 (a.put (O p).dst v') w1 := by
  have hpn := rd.lt
  have g := R.go hpn hd
  have hnx := R.nx_step hpn
  have hnq := R.nx_go hpn hd
  have visE : ∀ m o, Hp.vis ⟨(X p).hp.h, (X p).hp.next, hdOf ms J X p, [], (X p).hp.next⟩ m = some o → m < nx X p → hidden (hdOf ms J X p) m = false ∧ (X p).hp.h.get m = some o := by
    intro m o h hm
    obtain ⟨h1, h2⟩ := Hp.vis_some h
    refine ⟨?_, h2⟩
    unfold Hp.no at h1
    have : Nat.ble (X p).hp.next m = false := by
      cases hb : Nat.ble (X p).hp.next m with
      | false => rfl
      | true => have := Nat.le_of_ble_eq_true hb; unfold nx at hm; omega
    rw [this] at h1
    simpa using h1
  -- what it says of the executor
  have hFp : Facts ms J X p := fun _ => by
    refine ⟨fun m h1 h2 => hp.keep m h1 h2, fun m o h => hp.sat.lt m o h, fun m h => ?_⟩
    rcases hp.wrlt m h with h | ⟨h1, o, h2⟩
    · cases h
    · obtain ⟨h3, h4⟩ := visE m o h2 h1
      exact ⟨h1, h3, o, h4⟩
  refine ⟨hFp, ?_⟩
  have F := hFp hd
  -- the new renaming
  let new : Nat → Prop := fun m => nx X p ≤ m ∧ m < nx X (p + 1)
  let dec : ∀ m, Decidable (new m) := fun m => inferInstanceAs (Decidable (nx X p ≤ m ∧ m < nx X (p + 1)))
  let ρ1 : Rho := { ok := fun m => ρD.ok m ∨ new m, blk := fun m => if nx X p ≤ m ∧ m < nx X (p + 1) then ρ'.blk m else ρD.blk m, sh := fun m => if nx X p ≤ m ∧ m < nx X (p + 1) then ρ'.sh m else ρD.sh m,
                    esz := fun m => if nx X p ≤ m ∧ m < nx X (p + 1) then ρ'.esz m else ρD.esz m, clen := fun m => if nx X p ≤ m ∧ m < nx X (p + 1) then ρ'.clen m else ρD.clen m }
  have old : ∀ m, ρD.ok m → ¬ (nx X p ≤ m ∧ m < nx X (p + 1)) := by
    intro m hm h
    rcases (I.ok m).1 hm with h1 | ⟨r, h1, h2, h3, h4⟩
    · have := h0 m h1
      have := R.mono (p := 0) (r := p) (by omega) (by omega)
      omega
    · have hrn := rd.dlt r h1
      have hne : r ≠ p := fun e => rd.new (e ▸ h1)
      by_cases hlt : r < p
      · have := R.mono (p := r + 1) (r := p) (by omega) (by omega)
        omega
      · have := R.mono (p := p + 1) (r := r) (by omega) (by omega)
        omega
  have le1 : ρD.Le ρ1 := ⟨fun m h => .inl h, fun m h => if_neg (old m h), fun m h => if_neg (old m h), fun m h => if_neg (old m h), fun m h => if_neg (old m h)⟩
  have new' : ∀ m, ρ'.ok m → (ρD.ok m ∧ m < nx X p) ∨ (nx X p ≤ m ∧ m < nx X (p + 1)) := by
    intro m hm
    rcases hp.new m hm with h | h
    · exact .inl h
    · rw [hnq]; exact .inr h
  have lt1 : ∀ m, ρ'.ok m → m < nx X (p + 1) := fun m hm => by
    rcases new' m hm with h | h <;> omega
  have le2 : ρ'.Le (ρ1.cut (nx X (p + 1))) := by
    have ex : ∀ m, ρ'.ok m → ¬ (nx X p ≤ m ∧ m < nx X (p + 1)) → (ρD.cut (nx X p)).ok m := fun m hm h => by
      rcases new' m hm with h1 | h1
      · exact h1
      · exact absurd h1 h
    refine ⟨fun m hm => ⟨?_, lt1 m hm⟩, fun m hm => ?_, fun m hm => ?_, fun m hm => ?_, fun m hm => ?_⟩
    · rcases new' m hm with h | h
      · exact .inl h.1
      · exact .inr h
    · show (if nx X p ≤ m ∧ m < nx X (p + 1) then ρ'.blk m else ρD.blk m) = _
      by_cases h : nx X p ≤ m ∧ m < nx X (p + 1)
      · rw [if_pos h]
      · rw [if_neg h]; exact (hp.ext.blk m (ex m hm h)).symm
    · show (if nx X p ≤ m ∧ m < nx X (p + 1) then ρ'.sh m else ρD.sh m) = _
      by_cases h : nx X p ≤ m ∧ m < nx X (p + 1)
      · rw [if_pos h]
      · rw [if_neg h]; exact (hp.ext.sh m (ex m hm h)).symm
    · show (if nx X p ≤ m ∧ m < nx X (p + 1) then ρ'.esz m else ρD.esz m) = _
      by_cases h : nx X p ≤ m ∧ m < nx X (p + 1)
      · rw [if_pos h]
      · rw [if_neg h]; exact (hp.ext.esz m (ex m hm h)).symm
    · show (if nx X p ≤ m ∧ m < nx X (p + 1) then ρ'.clen m else ρD.clen m) = _
      by_cases h : nx X p ≤ m ∧ m < nx X (p + 1)
      · rw [if_pos h]
      · rw [if_neg h]; exact (hp.ext.clen m (ex m hm h)).symm
  have blk1 : ∀ m, ρ'.ok m → ρ1.blk m = ρ'.blk m := fun m hm => le2.blk m hm
  have cutle : ∀ N, (ρD.cut N).Le (ρ1.cut N) := fun N => Rho.cut_mono le1 (Nat.le_refl _)
  -- what is written was there
  have wrote : ∀ m, m ∈ (X p).q.wr → (hidden (X 0).hp.hid m = false ∨ (X 0).hp.lim ≤ m) ∧ m < nx X p ∧ ∃ o N, Mem X D m o N := by
    intro m hm
    obtain ⟨h1, h2, o, h3⟩ := F.wrv m hm
    obtain ⟨h4, N, _, h5⟩ := R.view rd hF hd h1 h2 h3
    exact ⟨.inl h4, h1, o, N, h5⟩
  -- a name that p has not touched
  have keepw : ∀ m o N, (hidden (X 0).hp.hid m = false ∨ (X 0).hp.lim ≤ m) → Mem X D m o N → ¬ Touch X p m → w1.heap[ρD.blk m]? = w.heap[ρD.blk m]? := by
    intro m o N hh hm ht
    obtain ⟨k1, k2, _, _⟩ := I.mem m o N hh hm
    refine hp.frame _ k2 fun m' h1 h2 e => ?_
    rcases h2 with ⟨h2, h3⟩ | h2
    · exact absurd h3 (Nat.not_lt.2 h2)
    · obtain ⟨h3, _, o', N', h4⟩ := wrote m' h2
      have := I.inj m' m o' o N' N h3 hh h4 hm e
      subst this
      exact ht ⟨hd, .inl h2⟩
  -- the memory, divided
  have memD : ∀ m o N, Mem X (fun s => D s ∨ s = p) m o N → (Touch X p m ∧ N = nx X (p + 1) ∧ (X p).q.h.get m = some o) ∨ (¬ Touch X p m ∧ Mem X D m o N) := by
    intro m o N h
    cases h with
    | init h1 h2 => exact .inr ⟨h1 p (.inr rfl), .init (fun s hs => h1 s (.inl hs)) h2⟩
    | last r h1 h2 h3 h4 =>
      by_cases ht : Touch X p m
      · have hpr := h3 p (.inr rfl) ht
        rcases h1 with h1 | rfl
        · have := R.is_last rd hFD hFp ht h1 h2
          omega
        · rw [R.h_go hpn hd] at h4
          exact .inl ⟨h2, rfl, h4⟩
      · rcases h1 with h1 | rfl
        · exact .inr ⟨ht, .last r h1 h2 (fun s hs => h3 s (.inl hs)) h4⟩
        · exact absurd h2 ht
  have seenQ : ∀ m o, Touch X p m → (X p).q.h.get m = some o → (X p).q.vis m = some o := by
    intro m o ht ho
    have e1 : (X p).q.hid = hdOf ms J X p := hp.hid
    have e2 : (X p).q.lim = (X p).hp.next := hp.limE
    rw [Hp.vis_eq]
    have : (X p).q.no m = false := by
      unfold Hp.no
      rw [e1, e2]
      rcases ht.2 with h | ⟨h, _⟩
      · rw [(F.wrv m h).2.1]; simp
      · have : Nat.ble (X p).hp.next m = true := Nat.ble_eq_true_of_le h
        rw [this]; rfl
    rw [this]
    exact ho
  have wrD : ∀ m, Wr X D m → Wr X (fun s => D s ∨ s = p) m := fun m h => h.mono fun r h => .inl h
  -- names of the region's head that p has written
  have wrP : ∀ m, ρ.ok m → m ∈ (X p).q.wr → Wr X (fun s => D s ∨ s = p) m := by
    intro m h1 h2
    by_cases h : m < (X 0).hp.lim
    · exact .inr (.inr ⟨h, p, .inr rfl, hd, h2⟩)
    · exact .inl ⟨by omega, h0 m h1⟩
  -- where what p has written lay at the head
  have wasP : ∀ m, ρD.ok m → m ∈ (X p).q.wr → w0.heap.size ≤ ρD.blk m ∨ ∃ m', ρ.ok m' ∧ Wr X (fun s => D s ∨ s = p) m' ∧ ρD.blk m = ρ.blk m' := by
    intro m h1 h2
    rcases (I.ok m).1 h1 with h3 | ⟨r, h3, h4, h5, h6⟩
    · exact .inr ⟨m, h3, wrP m h3 h2, I.le.blk m h3⟩
    · rcases I.fresh r m h3 h4 h5 h6 with h | ⟨m', h7, h8, h9⟩
      · exact .inl h
      · exact .inr ⟨m', h7, wrD m' h8, h9⟩
  refine ⟨ρ1, I.le.trans le1, fun m => ?_, fun m o N h1 h2 => ?_, fun m m' o o' N N' h1 h2 h3 h4 e => ?_, by rw [put_size]; exact I.tsz, fun t r hr ht => ?_, fun t ht => ?_, by rw [put_defers]; exact I.df, Nat.le_trans I.size hp.size,
    fun b h1 h2 => ?_, fun r m h1 h2 h3 h4 => ?_, hp.os.trans I.os, hp.tape.trans I.tape, hp.output.trans I.output⟩
  · show ρD.ok m ∨ new m ↔ _
    rw [I.ok]
    constructor
    · rintro ((h | ⟨r, h1, h2⟩) | h)
      · exact .inl h
      · exact .inr ⟨r, .inl h1, h2⟩
      · exact .inr ⟨p, .inr rfl, hd, h⟩
    · rintro (h | ⟨r, h1 | rfl, h2⟩)
      · exact .inl (.inl h)
      · exact .inl (.inr ⟨r, h1, h2⟩)
      · exact .inr h2.2
  · rcases memD m o N h2 with ⟨ht, rfl, ho⟩ | ⟨ht, hm⟩
    · obtain ⟨k1, k2, k3⟩ := hp.sat.vis m o (seenQ m o ht ho)
      refine ⟨(le2.ok m k1).1, by rw [blk1 m k1]; exact k2, lt1 m k1, k3.mono k1 le2 rfl⟩
    · obtain ⟨k1, k2, k3, k4⟩ := I.mem m o N h1 hm
      refine ⟨le1.ok m k1, by rw [le1.blk m k1]; exact Nat.lt_of_lt_of_le k2 hp.size, k3, k4.mono ⟨k1, k3⟩ (cutle N) (keepw m o N h1 hm ht)⟩
  · -- a name that p has made lies on none of the old ones
    have cross : ∀ m m' o o' N', Touch X p m → (X p).q.h.get m = some o → (hidden (X 0).hp.hid m' = false ∨ (X 0).hp.lim ≤ m') → ¬ Touch X p m' → Mem X D m' o' N' → ρ1.blk m = ρ1.blk m' → False := by
      intro m m' o o' N' ht ho hh' ht' hm' e
      obtain ⟨k1, k2, _, _⟩ := I.mem m' o' N' hh' hm'
      obtain ⟨j1, _, _⟩ := hp.sat.vis m o (seenQ m o ht ho)
      rw [blk1 m j1, le1.blk m' k1] at e
      have eqwr : ∀ x, x ∈ (X p).q.wr → ρD.blk x = ρD.blk m' → False := by
        intro x hx ex
        obtain ⟨h3, _, o2, N2, h4⟩ := wrote x hx
        have := I.inj x m' o2 o' N2 N' h3 hh' h4 hm' ex
        subst this
        exact ht' ⟨hd, .inl hx⟩
      rcases ht.2 with h | ⟨h5, h6⟩
      · rcases new' m j1 with h7 | h7
        · have := hp.ext.blk m h7
          rw [this] at e
          exact eqwr m h e
        · have := (F.wrv m h).1; omega
      · rw [hnq] at h6
        rcases hp.fresh m h5 h6 with h7 | ⟨x, h7, h8, h9⟩
        · omega
        · rcases h8 with ⟨h8, h10⟩ | h8
          · exact absurd h10 (Nat.not_lt.2 h8)
          · rw [h9] at e; exact eqwr x h8 e
    rcases memD m o N h3 with ⟨ht, _, ho⟩ | ⟨ht, hm⟩ <;> rcases memD m' o' N' h4 with ⟨ht', _, ho'⟩ | ⟨ht', hm'⟩
    · have v1 := seenQ m o ht ho
      have v2 := seenQ m' o' ht' ho'
      obtain ⟨j1, _, _⟩ := hp.sat.vis m o v1
      obtain ⟨j2, _, _⟩ := hp.sat.vis m' o' v2
      rw [blk1 m j1, blk1 m' j2] at e
      exact hp.sat.inj m m' o o' v1 v2 e
    · exact (cross m m' o o' N' ht ho h2 ht' hm' e).elim
    · exact (cross m' m o' o N ht' ho' h1 ht hm e.symm).elim
    · obtain ⟨j1, _⟩ := I.mem m o N h1 hm
      obtain ⟨j2, _⟩ := I.mem m' o' N' h2 hm'
      rw [le1.blk m j1, le1.blk m' j2] at e
      exact I.inj m m' o o' N N' h1 h2 hm hm' e
  · rw [put_at, I.tsz]
    rcases hr with hr | rfl
    · have : (O p).dst ≠ some t := fun e => rd.new (R.uniq r p t (rd.dlt r hr) hpn ht e ▸ hr)
      rw [if_neg fun h => this h.1]
      exact (I.tm1 t r hr ht).mono (cutle _)
    · rw [g.tm]
      by_cases h : t < sz
      · rw [if_pos ⟨ht, h⟩, if_pos ⟨ht, h⟩]; exact hv.mono le2
      · rw [if_neg fun x => h x.2, if_neg fun x => h x.2]
        rw [R.big (t := t) (Nat.le_of_not_lt h) r (Nat.le_of_lt hpn), getD_big (by rw [I.tsz]; exact Nat.le_of_not_lt h)]; exact VR.undef
  · rw [put_at, if_neg fun h => ht p (.inr rfl) h.1]
    exact (I.tm0 t fun r hr => ht r (.inl hr)).mono (cutle _)
  · have e1 : w.heap[b]? = w0.heap[b]? := I.frame b h1 fun m h3 h4 => h2 m h3 (wrD m h4)
    rw [← e1]
    refine hp.frame b (Nat.lt_of_lt_of_le h1 I.size) fun m h3 h4 e => ?_
    rcases h4 with ⟨h4, h5⟩ | h4
    · exact absurd h5 (Nat.not_lt.2 h4)
    · rcases wasP m h3.1 h4 with h5 | ⟨m', h5, h6, h7⟩
      · have : ρD.blk m = b := e
        omega
      · exact h2 m' h5 h6 (h7.symm.trans e)
  · rcases h1 with h1 | rfl
    · have hok : ρD.ok m := (I.ok m).2 (.inr ⟨r, h1, h2, h3, h4⟩)
      rw [le1.blk m hok]
      rcases I.fresh r m h1 h2 h3 h4 with h | ⟨m', h5, h6, h7⟩
      · exact .inl h
      · exact .inr ⟨m', h5, wrD m' h6, h7⟩
    · have hb : ρ1.blk m = ρ'.blk m := if_pos ⟨h3, h4⟩
      rw [hb]
      rw [hnq] at h4
      rcases hp.fresh m h3 h4 with h7 | ⟨x, h7, h8, h9⟩
      · exact .inl (Nat.le_trans I.size h7)
      · rcases h8 with ⟨h8, h10⟩ | h8
        · exact absurd h10 (Nat.not_lt.2 h8)
        · rw [h9]
          exact wasP x h7.1 h8
end
end Go.Proofs.YtjdkfdhfodmbeaaDoor.Ax
