/- An executor of closed runs: drawn regions (9): what the executor's way says of names. -/
import Derived.Test.YtjdkfdhfodmbeaaDoorAxZd
namespace Go.Proofs.YtjdkfdhfodmbeaaDoor.Ax
open Go
variable {P : Program} {G : Nat}

def nx (X : Nat → Ent) (p : Nat) : Nat := (X p).hp.next
noncomputable def hdOf (ms : T Nat) (J : Nat → Nat) (X : Nat → Ent) (p : Nat) : List (Nat × Nat) := hideOf (natAt ms (J p)) (X p).ivs (X p).hp.hid
/-- The operation at place p has made or written m. -/
def Touch (X : Nat → Ent) (p m : Nat) : Prop := (X p).dn = true ∧ (m ∈ (X p).q.wr ∨ (nx X p ≤ m ∧ m < nx X (p + 1)))

/-- A region, by places of the executor's order. -/
structure Reg (P : Program) (G : Nat) (run : Run) (ops : Array Oper) (sz n : Nat) (ms : T Nat) (J : Nat → Nat) (O : Nat → Oper) (X : Nat → Ent) : Prop where
  op : ∀ p, p < n → ops[J p]? = some (O p)
  inj : ∀ p r, p < n → r < n → J p = J r → p = r
  surj : ∀ i, i < ops.size → ∃ p, p < n ∧ J p = i
  bef : ∀ p r, p < n → r < n → bit (natAt ms (J p)) (J r) = true → r < p
  named : ∀ p r t, p < n → r < n → Operand.tmp t ∈ (O p).op.operands → (O r).dst = some t → r ≠ p ∧ (bit (natAt ms (J p)) (J r) = true ∨ bit (natAt ms (J r)) (J p) = true)
  uniq : ∀ p r t, p < n → r < n → (O p).dst = some t → (O r).dst = some t → p = r
  guard : ∀ p g want, p < n → (O p).guard = some (g, want) → ∃ r, r < n ∧ J r = g ∧ bit (natAt ms (J p)) (J r) = true
  link : ∀ p, p < n → Link (oper P run) sz (stepOf P G ops.toList ms (J p, O p)) (X p) (X (p + 1))
  ivs0 : (X 0).ivs = []
  sv0 : (X 0).sv = []
  tbig : ∀ t, sz ≤ t → evA (X 0).tm (.tmp t) = undef

section
variable {run : Run} {ops : Array Oper} {sz n : Nat} {ms : T Nat} {J : Nat → Nat} {O : Nat → Oper} {X : Nat → Ent}

structure Skipped (ops : Array Oper) (sz : Nat) (o : Oper) (e e' : Ent) : Prop where
  want : ∃ f, wantBx ops.toList o.guard = .ask f ∧ ∀ x y, f e.tm x y = y
  tm : ∀ t, evA e'.tm (.tmp t) = if o.dst = some t ∧ t < sz then undef else evA e.tm (.tmp t)
  hp : e'.hp = e.hp
  ivs : e'.ivs = e.ivs
  sv : e'.sv = e.sv
structure Gone (P : Program) (G : Nat) (run : Run) (ops : Array Oper) (sz : Nat) (j m : Nat) (o : Oper) (e e' : Ent) : Prop where
  want : wantBx ops.toList o.guard = .yes ∨ ∃ f, wantBx ops.toList o.guard = .ask f ∧ ∀ x y, f e.tm x y = x
  run : oper P run e.tm ⟨e.hp.h, e.hp.next, hideOf m e.ivs e.hp.hid, [], e.hp.next⟩ (bxOf P G o) = .ok e.v e.q
  seen : e.q.wr = [] ∨ unseen m e.q.wr e.sv = true
  next : e.hp.next ≤ e.q.next
  tm : ∀ t, evA e'.tm (.tmp t) = if o.dst = some t ∧ t < sz then e.v else evA e.tm (.tmp t)
  ivs : e'.ivs = addIvsL j e.q.wr (addIvL j e.hp.next e.q.next e.ivs)
  sv : e'.sv = (j, e.hp.next, hideOf m e.ivs e.hp.hid) :: e.sv
  hp : e'.hp = ⟨e.q.h, e.q.next, e.hp.hid, mergeL e.hp.lim e.q.wr e.hp.wr, e.hp.lim⟩

theorem Reg.cases (R : Reg P G run ops sz n ms J O X) {p : Nat} (hp : p < n) :
    ((X p).dn = false ∧ Skipped ops sz (O p) (X p) (X (p + 1))) ∨ ((X p).dn = true ∧ Gone P G run ops sz (J p) (natAt ms (J p)) (O p) (X p) (X (p + 1))) := by
  have h := R.link p hp
  unfold stepOf at h
  cases hd : dstBx (O p).dst with
  | mk d =>
    simp only at h
    rw [hd] at h
    rcases h with ⟨h1, h2, h3, h4, h5, h6⟩ | ⟨h1, h2, h3, h4, h5, h6, h7, h8, h9⟩
    · exact .inl ⟨h1, h2, dst_tm hd h3, h4, h5, h6⟩
    · exact .inr ⟨h1, h2, h3, h4, h5, dst_tm hd h6, h7, h8, h9⟩

theorem Reg.skip (R : Reg P G run ops sz n ms J O X) {p : Nat} (hp : p < n) (h : (X p).dn = false) : Skipped ops sz (O p) (X p) (X (p + 1)) := by
  rcases R.cases hp with ⟨_, g⟩ | ⟨g, _⟩
  · exact g
  · rw [h] at g; cases g
theorem Reg.go (R : Reg P G run ops sz n ms J O X) {p : Nat} (hp : p < n) (h : (X p).dn = true) : Gone P G run ops sz (J p) (natAt ms (J p)) (O p) (X p) (X (p + 1)) := by
  rcases R.cases hp with ⟨g, _⟩ | ⟨_, g⟩
  · rw [h] at g; cases g
  · exact g

theorem Reg.base (R : Reg P G run ops sz n ms J O X) : ∀ p, p ≤ n → (X p).hp.hid = (X 0).hp.hid ∧ (X p).hp.lim = (X 0).hp.lim
  | 0, _ => ⟨rfl, rfl⟩
  | p + 1, h => by
    have ih := R.base p (by omega)
    rcases R.cases (p := p) (by omega) with ⟨_, g⟩ | ⟨_, g⟩
    · rw [g.hp]; exact ih
    · rw [g.hp]; exact ih

theorem Reg.nx_step (R : Reg P G run ops sz n ms J O X) {p : Nat} (hp : p < n) : nx X p ≤ nx X (p + 1) := by
  unfold nx
  rcases R.cases hp with ⟨_, g⟩ | ⟨_, g⟩
  · rw [g.hp]; exact Nat.le_refl _
  · rw [g.hp]; exact g.next
theorem Reg.nx_go (R : Reg P G run ops sz n ms J O X) {p : Nat} (hp : p < n) (h : (X p).dn = true) : nx X (p + 1) = (X p).q.next := by
  unfold nx; rw [(R.go hp h).hp]
theorem Reg.h_go (R : Reg P G run ops sz n ms J O X) {p : Nat} (hp : p < n) (h : (X p).dn = true) : (X (p + 1)).hp.h = (X p).q.h := by rw [(R.go hp h).hp]

theorem Reg.mono (R : Reg P G run ops sz n ms J O X) {p r : Nat} (h : p ≤ r) (hr : r ≤ n) : nx X p ≤ nx X r := by
  induction r with
  | zero => have : p = 0 := by omega
            subst this; exact Nat.le_refl _
  | succ r ih =>
    by_cases e : p = r + 1
    · subst e; exact Nat.le_refl _
    · exact Nat.le_trans (ih (by omega) (by omega)) (R.nx_step (by omega))

theorem Reg.ivs_step (R : Reg P G run ops sz n ms J O X) {p : Nat} (hp : p < n) {x : Nat × Nat × Nat} (h : x ∈ (X p).ivs) : x ∈ (X (p + 1)).ivs := by
  rcases R.cases hp with ⟨_, g⟩ | ⟨_, g⟩
  · rw [g.ivs]; exact h
  · rw [g.ivs, mem_addIvsL, mem_addIvL]; exact .inl (.inl h)
theorem Reg.ivs_mono (R : Reg P G run ops sz n ms J O X) {p r : Nat} (h : p ≤ r) (hr : r ≤ n) {x : Nat × Nat × Nat} (hx : x ∈ (X p).ivs) : x ∈ (X r).ivs := by
  induction r with
  | zero => have : p = 0 := by omega
            subst this; exact hx
  | succ r ih =>
    by_cases e : p = r + 1
    · subst e; exact hx
    · exact R.ivs_step (by omega) (ih (by omega) (by omega))
theorem Reg.sv_mono (R : Reg P G run ops sz n ms J O X) {p r : Nat} (h : p ≤ r) (hr : r ≤ n) {x : Nat × Nat × List (Nat × Nat)} (hx : x ∈ (X p).sv) : x ∈ (X r).sv := by
  induction r with
  | zero => have : p = 0 := by omega
            subst this; exact hx
  | succ r ih =>
    by_cases e : p = r + 1
    · subst e; exact hx
    · have hx := ih (by omega) (by omega)
      rcases R.cases (p := r) (by omega) with ⟨_, g⟩ | ⟨_, g⟩
      · rw [g.sv]; exact hx
      · rw [g.sv]; exact .tail _ hx
theorem Reg.ivs_wf (R : Reg P G run ops sz n ms J O X) : ∀ p, p ≤ n → ∀ i a b, (i, a, b) ∈ (X p).ivs → a ≤ b
  | 0, _, i, a, b, h => by rw [R.ivs0] at h; cases h
  | p + 1, hp, i, a, b, h => by
    rcases R.cases (p := p) (by omega) with ⟨_, g⟩ | ⟨_, g⟩
    · rw [g.ivs] at h; exact R.ivs_wf p (by omega) i a b h
    · rw [g.ivs, mem_addIvsL, mem_addIvL] at h
      rcases h with (h | ⟨_, h⟩) | ⟨k, _, h⟩
      · exact R.ivs_wf p (by omega) i a b h
      · cases h; exact g.next
      · cases h; omega
theorem Reg.sv_in (R : Reg P G run ops sz n ms J O X) {r p : Nat} (h : r < p) (hp : p ≤ n) (hd : (X r).dn = true) : (J r, nx X r, hdOf ms J X r) ∈ (X p).sv := by
  refine R.sv_mono (p := r + 1) (by omega) hp ?_
  rw [(R.go (by omega) hd).sv]
  exact .head _

/-- What an operation has touched is hidden from those that do not surely come behind it. -/
theorem Reg.touch_hid (R : Reg P G run ops sz n ms J O X) {r p m : Nat} (h : r < p) (hp : p < n) (ht : Touch X r m) (hb : bit (natAt ms (J p)) (J r) = false) : hidden (hdOf ms J X p) m = true := by
  obtain ⟨hd, ht⟩ := ht
  have g := R.go (p := r) (by omega) hd
  have hw := R.ivs_wf p (by omega)
  rcases ht with ht | ⟨h1, h2⟩
  · refine hideOf_iv (i := J r) (a := m) (b := m + 1) hb (by omega) _ hw (R.ivs_mono (p := r + 1) (by omega) (by omega) ?_)
    rw [g.ivs, mem_addIvsL]
    exact .inr ⟨m, ht, rfl⟩
  · refine hideOf_iv (i := J r) (a := nx X r) (b := nx X (r + 1)) hb ⟨h1, h2⟩ _ hw (R.ivs_mono (p := r + 1) (by omega) (by omega) ?_)
    rw [g.ivs, mem_addIvsL, mem_addIvL]
    refine .inl (.inr ⟨?_, ?_⟩)
    · rw [R.nx_go (by omega) hd] at h2
      unfold nx at h1
      omega
    · rw [R.nx_go (by omega) hd]; rfl
theorem Reg.hid_hid (R : Reg P G run ops sz n ms J O X) {p m : Nat} (hp : p < n) (h : hidden (X 0).hp.hid m = true) : hidden (hdOf ms J X p) m = true := by
  refine hideOf_hid ?_ _ (R.ivs_wf p (by omega))
  rw [(R.base p (by omega)).1]; exact h

/-- What an operation that was done says of the memory of the executor. -/
structure Fact (X : Nat → Ent) (hd : List (Nat × Nat)) (p : Nat) : Prop where
  keep : ∀ m, m < nx X p → m ∉ (X p).q.wr → (X p).q.h.get m = (X p).hp.h.get m
  lt : ∀ m o, (X p).q.h.get m = some o → m < (X p).q.next
  wrv : ∀ m, m ∈ (X p).q.wr → m < nx X p ∧ hidden hd m = false ∧ ∃ o, (X p).hp.h.get m = some o
def Facts (ms : T Nat) (J : Nat → Nat) (X : Nat → Ent) (p : Nat) : Prop := (X p).dn = true → Fact X (hdOf ms J X p) p

/-- What lies at a name that was not touched since. -/
theorem Reg.back (R : Reg P G run ops sz n ms J O X) {m a p : Nat} {o : AObj} (ha : a ≤ p) (hp : p ≤ n) (hF : ∀ s, s < p → Facts ms J X s) (hn : ∀ s, a ≤ s → s < p → ¬ Touch X s m) (h : (X p).hp.h.get m = some o) : (X a).hp.h.get m = some o := by
  induction p with
  | zero => have : a = 0 := by omega
            subst this; exact h
  | succ p ih =>
    by_cases e : a = p + 1
    · subst e; exact h
    · refine ih (by omega) (by omega) (fun s hs => hF s (by omega)) (fun s h1 h2 => hn s h1 (by omega)) ?_
      rcases R.cases (p := p) (by omega) with ⟨_, g⟩ | ⟨hd, g⟩
      · rw [g.hp] at h; exact h
      · rw [R.h_go (by omega) hd] at h
        have f := hF p (by omega) hd
        have h1 := f.lt m o h
        have h2 := hn p (by omega) (by omega)
        have h3 : m < nx X p := by
          by_cases h3 : m < nx X p
          · exact h3
          · exact absurd ⟨hd, .inr ⟨by omega, by rw [R.nx_go (by omega) hd]; exact h1⟩⟩ h2
        rw [← f.keep m h3 fun h4 => h2 ⟨hd, .inl h4⟩]; exact h

theorem Reg.lt (R : Reg P G run ops sz n ms J O X) (h0 : ∀ m o, (X 0).hp.h.get m = some o → m < nx X 0) {p : Nat} (hp : p ≤ n) (hF : ∀ s, s < p → Facts ms J X s) {m : Nat} {o : AObj} (h : (X p).hp.h.get m = some o) : m < nx X p := by
  cases p with
  | zero => exact h0 m o h
  | succ p =>
    rcases R.cases (p := p) (by omega) with ⟨_, g⟩ | ⟨hd, g⟩
    · have := R.lt h0 (p := p) (by omega) (fun s hs => hF s (by omega)) (m := m) (o := o) (by rw [g.hp] at h; exact h)
      unfold nx at *; rw [g.hp]; exact this
    · rw [R.h_go (by omega) hd] at h
      rw [R.nx_go (by omega) hd]
      exact (hF p (by omega) hd).lt m o h

theorem last_touch (X : Nat → Ent) (m : Nat) : ∀ p, (∀ s, s < p → ¬ Touch X s m) ∨ ∃ r, r < p ∧ Touch X r m ∧ ∀ s, s < p → Touch X s m → s ≤ r
  | 0 => .inl fun s h => by omega
  | p + 1 => by
    by_cases h : Touch X p m
    · exact .inr ⟨p, by omega, h, fun s hs _ => by omega⟩
    · rcases last_touch X m p with h1 | ⟨r, h1, h2, h3⟩
      · refine .inl fun s hs ht => ?_
        by_cases e : s = p
        · subst e; exact h ht
        · exact h1 s (by omega) ht
      · refine .inr ⟨r, by omega, h2, fun s hs ht => ?_⟩
        by_cases e : s = p
        · subst e; exact absurd ht h
        · exact h3 s (by omega) ht

/-- What lies at a name when the operations of D are done, and below which number all is that it leads to. -/
inductive Mem (X : Nat → Ent) (D : Nat → Prop) (m : Nat) (o : AObj) : Nat → Prop
  | init : (∀ s, D s → ¬ Touch X s m) → (X 0).hp.h.get m = some o → Mem X D m o (nx X 0)
  | last (r : Nat) : D r → Touch X r m → (∀ s, D s → Touch X s m → s ≤ r) → (X (r + 1)).hp.h.get m = some o → Mem X D m o (nx X (r + 1))

/-- A set of places that may be done, when p is the next. -/
structure Ready (n : Nat) (ms : T Nat) (J : Nat → Nat) (D : Nat → Prop) (p : Nat) : Prop where
  lt : p < n
  dlt : ∀ r, D r → r < n
  new : ¬ D p
  pre : ∀ r, r < n → bit (natAt ms (J p)) (J r) = true → D r
  closed : ∀ r s, D r → s < n → bit (natAt ms (J r)) (J s) = true → D s

/-- An operation behind p in the executor's order, done before it, has not written what p sees. -/
theorem Reg.not_later (R : Reg P G run ops sz n ms J O X) {D : Nat → Prop} {p : Nat} (rd : Ready n ms J D p) (hd : (X p).dn = true) {m : Nat} (hm : m < nx X p) (hv : hidden (hdOf ms J X p) m = false) {s : Nat} (hs : D s) (hps : p < s) : ¬ Touch X s m := by
  rintro ⟨hds, ht⟩
  have hsn := rd.dlt s hs
  have g := R.go hsn hds
  have h1 := R.mono (p := p) (r := s) (by omega) (by omega)
  rcases ht with ht | ⟨h2, h3⟩
  · have hb : bit (natAt ms (J s)) (J p) = false := by
      cases hb : bit (natAt ms (J s)) (J p) with
      | false => rfl
      | true => exact absurd (rd.closed s p hs rd.lt hb) rd.new
    rcases g.seen with e | hu
    · rw [e] at ht; cases ht
    · rcases unseen_in hb hu (R.sv_in hps (by omega) hd) m ht with h | h
      · omega
      · rw [hv] at h; cases h
  · omega

/-- What p sees is what lies there. -/
theorem Reg.view (R : Reg P G run ops sz n ms J O X) {D : Nat → Prop} {p : Nat} (rd : Ready n ms J D p) (hF : ∀ s, s < p → Facts ms J X s) (hd : (X p).dn = true) {m : Nat} {o : AObj} (hm : m < nx X p) (hv : hidden (hdOf ms J X p) m = false)
    (h : (X p).hp.h.get m = some o) : hidden (X 0).hp.hid m = false ∧ ∃ N, N ≤ nx X p ∧ Mem X D m o N := by
  have hpn := rd.lt
  have before : ∀ s, s < p → Touch X s m → D s := by
    intro s hs ht
    refine rd.pre s (by omega) ?_
    cases hb : bit (natAt ms (J p)) (J s) with
    | true => rfl
    | false => rw [R.touch_hid hs hpn ht hb] at hv; cases hv
  have upto : ∀ s, D s → Touch X s m → s < p := by
    intro s hs ht
    by_cases h1 : s < p
    · exact h1
    · have : s ≠ p := fun e => rd.new (e ▸ hs)
      exact absurd ht (R.not_later rd hd hm hv hs (by omega))
  refine ⟨?_, ?_⟩
  · cases h1 : hidden (X 0).hp.hid m with
    | false => rfl
    | true => rw [R.hid_hid hpn h1] at hv; cases hv
  · rcases last_touch X m p with h1 | ⟨r, h1, h2, h3⟩
    · exact ⟨nx X 0, R.mono (by omega) (by omega), .init (fun s hs ht => h1 s (upto s hs ht) ht) (R.back (by omega) (by omega) hF (fun s _ hs => h1 s hs) h)⟩
    · refine ⟨nx X (r + 1), R.mono (by omega) (by omega), .last r (before r h1 h2) h2 (fun s hs ht => h3 s (upto s hs ht) ht) ?_⟩
      exact R.back (by omega) (by omega) hF (fun s h4 h5 ht => by have := h3 s h5 ht; omega) h

/-- Of those that have touched what p touches, p is the last in the executor's order. -/
theorem Reg.is_last (R : Reg P G run ops sz n ms J O X) {D : Nat → Prop} {p : Nat} (rd : Ready n ms J D p) (hF : ∀ s, D s → Facts ms J X s) (hFp : Facts ms J X p) {m : Nat} (ht : Touch X p m) {s : Nat} (hs : D s) (hts : Touch X s m) : s < p := by
  by_cases h1 : s < p
  · exact h1
  · exfalso
    have hne : s ≠ p := fun e => rd.new (e ▸ hs)
    have hps : p < s := by omega
    have hsn := rd.dlt s hs
    have hb : bit (natAt ms (J s)) (J p) = false := by
      cases hb : bit (natAt ms (J s)) (J p) with
      | false => rfl
      | true => exact absurd (rd.closed s p hs rd.lt hb) rd.new
    have hh := R.touch_hid hps hsn ht hb
    obtain ⟨hds, hts⟩ := hts
    rcases hts with h2 | ⟨h2, h3⟩
    · have := (hF s hs hds).wrv m h2
      rw [hh] at this; cases this.2.1
    · have hm : m < nx X (p + 1) := by
        obtain ⟨hdp, h4⟩ := ht
        rcases h4 with h4 | ⟨_, h4⟩
        · have := ((hFp hdp).wrv m h4).1
          have := R.nx_step rd.lt
          omega
        · exact h4
      have := R.mono (p := p + 1) (r := s) (by omega) (by omega)
      omega
end
end Go.Proofs.YtjdkfdhfodmbeaaDoor.Ax
