/-
  Some texts of this seat, one behind the other.
-/
import Derived.Test.YtlcablkhomnieaaK28
import Derived.Test.YtlcablkhomnieaaQBkt
import Derived.Test.YtlcablkhomnieaaUSin
/-
  A tree of states, in plain words: inner nodes and leaves by numbers.
-/
namespace Go.Proofs.Ytlcablkhomnieaa
set_option linter.unusedVariables false

/-- A node: an inner one, or a leaf. -/
abbrev Nd := Nat ⊕ Nat
abbrev Pth := List (List Int × List Int)
/-- An inner node: what is above it, by which answer, its path, its word. -/
structure Inr where
  up : Option Nat
  an : List Int
  pa : Pth
  wd : List Int
/-- A leaf: its access word at the end. -/
structure Lfr where
  up : Option Nat
  an : List Int
  pa : Pth
  ac : List Int
/-- A tree of the program's. -/
structure Tr where
  kind : Int
  k : Int
  o : Int
  nn : Nat
  nd : Nat → Inr
  nl : Nat
  lf : Nat → Lfr
  ch : Nat → List Int → Option Nd
  root : Option Nd
  dep : Nat
  sif : List Int
  pos : Option Nd
def in0 : Inr := ⟨none, [], [], []⟩
def lf0 : Lfr := ⟨none, [], [], []⟩
/-- A tree without nodes. -/
def tr0 (kind k o : Int) : Tr := ⟨kind, k, o, 0, fun _ => in0, 0, fun _ => lf0, fun _ _ => none, none, 0, [], none⟩
/-- Where a node stands. -/
def Tr.upN (s : Tr) : Nd → Option Nat
  | .inl i => (s.nd i).up
  | .inr j => (s.lf j).up
def Tr.anN (s : Tr) : Nd → List Int
  | .inl i => (s.nd i).an
  | .inr j => (s.lf j).an
def Tr.paN (s : Tr) : Nd → Pth
  | .inl i => (s.nd i).pa
  | .inr j => (s.lf j).pa
def Tr.is (s : Tr) : Nd → Prop
  | .inl i => i < s.nn
  | .inr j => j < s.nl
/-- The tree knows a node by where it stands. -/
def Tr.hang (s : Tr) (n : Nd) : Tr :=
  { s with
    dep := max s.dep (s.paN n).length
    root := if s.upN n = none then some n else s.root
    ch := match s.upN n with
      | none => s.ch
      | some u => updV s.ch u fun x => if x = s.anN n then some n else s.ch u x }
/-- A state more, a node more; a leaf stands elsewhere. -/
def Tr.leaf (s : Tr) (up : Option Nat) (an : List Int) (pa : Pth) (ac : List Int) : Tr := Tr.hang { s with nl := s.nl + 1, lf := updV s.lf s.nl ⟨up, an, pa, ac⟩ } (.inr s.nl)
def Tr.inner (s : Tr) (up : Option Nat) (an : List Int) (pa : Pth) (wd : List Int) : Tr := Tr.hang { s with nn := s.nn + 1, nd := updV s.nd s.nn ⟨up, an, pa, wd⟩, ch := updV s.ch s.nn fun _ => none } (.inl s.nn)
def Tr.moved (s : Tr) (j : Nat) (up : Option Nat) (an : List Int) (pa : Pth) : Tr := Tr.hang { s with lf := updV s.lf j ⟨up, an, pa, (s.lf j).ac⟩ } (.inr j)

end Go.Proofs.Ytlcablkhomnieaa

/-
  A tree of states, in plain words: what holds of each that calls have made; its calls.
-/
namespace Go.Proofs.Ytlcablkhomnieaa
set_option linter.unusedVariables false

/-- Nodes that are named are there. -/
structure Tr.Ok (s : Tr) : Prop where
  ch : ∀ i x n, i < s.nn → s.ch i x = some n → s.is n
  rt : ∀ n, s.root = some n → s.is n
  ps : ∀ n, s.pos = some n → s.is n
  un : ∀ i u, i < s.nn → (s.nd i).up = some u → u < s.nn
  uf : ∀ j u, j < s.nl → (s.lf j).up = some u → u < s.nn
/-- An answer at a word. -/
def Tr.ans (s : Tr) (d x : List Int) : Prop := (s.kind = 1 ∧ x.length = 1 ∧ inB 2 x = true) ∨ (s.kind = 2 ∧ x.length = d.length ∧ inB s.o x = true)
/-- What holds of a tree that calls have made. -/
structure Tr.Wf (s : Tr) : Prop where
  kd : s.kind = 1 ∨ s.kind = 2
  k0 : 1 ≤ s.k
  k1 : s.k ≤ 64
  o0 : 1 ≤ s.o
  o1 : s.o ≤ 64
  od : s.kind = 1 → s.o = 2
  n0 : s.nn < s.nl
  n1 : s.nl ≤ 1024
  ok : s.Ok
  up0 : ∀ n, s.is n → s.upN n = none → s.paN n = [] ∧ s.root = some n
  up1 : ∀ n u, s.is n → s.upN n = some u → s.paN n = (s.nd u).pa ++ [((s.nd u).wd, s.anN n)] ∧ s.ch u (s.anN n) = some n
  cu : ∀ u x n, u < s.nn → s.ch u x = some n → s.upN n = some u ∧ s.anN n = x ∧ s.ans (s.nd u).wd x
  rt : ∃ n, s.root = some n ∧ s.upN n = none
  wd : ∀ i, i < s.nn → Wrd s.k (s.nd i).wd ∧ (s.nd i).wd.length ≤ 4096 ∧ (s.kind = 2 → 0 < (s.nd i).wd.length)
  ac : ∀ j, j < s.nl → Wrd s.k (s.lf j).ac ∧ (s.lf j).ac.length ≤ 4096
  le : ∀ i, i < s.nn → ∃ j, j < s.nl ∧ ∃ x r, (s.lf j).pa = (s.nd i).pa ++ ((s.nd i).wd, x) :: r
  de : ∀ j, j < s.nl → (s.lf j).pa.length ≤ s.dep
  dx : ∃ j, j < s.nl ∧ (s.lf j).pa.length = s.dep
  dn : s.dep ≤ s.nn
  si : s.sif.length ≤ 4096 ∧ Wrd s.k s.sif
  sb : ∀ n, s.is n → (∀ x ∈ s.anN n, 0 ≤ x ∧ x < 256) ∧ (s.anN n).length ≤ 100000
section
variable {s : Tr}
theorem Tr.Wf.dpn (h : s.Wf) {i : Nat} (hi : i < s.nn) : (s.nd i).pa.length + 1 ≤ s.dep := by
  obtain ⟨j, hj, x, r, e⟩ := h.le i hi
  have := h.de j hj
  rw [e, List.length_append, List.length_cons] at this
  omega
theorem Tr.Wf.dps (h : s.Wf) {i : Nat} (hi : i < s.nn) : (s.nd i).pa.length ≤ 1024 := by have := h.dpn hi; have := h.dn; have := h.n0; have := h.n1; omega
theorem Tr.Wf.dpf (h : s.Wf) {j : Nat} (hj : j < s.nl) : (s.lf j).pa.length ≤ 1024 := by have := h.de j hj; have := h.dn; have := h.n0; have := h.n1; omega
/-- Nodes of one path are one. -/
theorem Tr.Wf.one (h : s.Wf) : ∀ (l : Nat) (n m : Nd), (s.paN n).length = l → s.is n → s.is m → s.paN n = s.paN m → n = m := by
  intro l
  induction l with
  | zero =>
    intro n m hl hn hm e
    have h0 : s.paN n = [] := List.eq_nil_of_length_eq_zero hl
    have key : ∀ q, s.is q → s.paN q = [] → s.root = some q := fun q hq e => by
      cases hu : s.upN q with
      | none => exact (h.up0 q hq hu).2
      | some u =>
        have := (h.up1 q u hq hu).1
        rw [e] at this
        have := congrArg List.length this
        simp at this
    have a := key n hn h0
    have b := key m hm (e ▸ h0)
    rw [a] at b
    injection b
  | succ l ih =>
    intro n m hl hn hm e
    have key : ∀ q, s.is q → (s.paN q).length = l + 1 → ∃ u, u < s.nn ∧ s.paN q = (s.nd u).pa ++ [((s.nd u).wd, s.anN q)] ∧ s.ch u (s.anN q) = some q := fun q hq e => by
      cases hu : s.upN q with
      | none => rw [(h.up0 q hq hu).1] at e; simp at e
      | some u =>
        refine ⟨u, ?_, h.up1 q u hq hu⟩
        cases q with
        | inl i => exact h.ok.un i u hq hu
        | inr j => exact h.ok.uf j u hq hu
    obtain ⟨u, hu, p1, c1⟩ := key n hn hl
    obtain ⟨v, hv, p2, c2⟩ := key m hm (e ▸ hl)
    rw [p1, p2] at e
    obtain ⟨e1, e2⟩ := List.append_inj' e rfl
    injection e2 with e2 _
    injection e2 with _ e3
    have hul : (s.paN (.inl u)).length = l := by
      rw [p1, List.length_append, List.length_singleton] at hl
      show (s.nd u).pa.length = l
      omega
    have := ih (.inl u) (.inl v) hul hu hv e1
    injection this with this
    subst this
    rw [e3] at c1
    rw [c1] at c2
    injection c2
/-! ### The calls -/
/-- Whether an answer fits. -/
def fitR (s : Tr) (wd out : List Int) : Int := chkA ⟨1, wd, ⟨s.kind, s.k, s.o, 0, [], []⟩⟩ ⟨1, out, []⟩
/-- The part of an answer that is one at a node. -/
def ofR (s : Tr) (wd out : List Int) : List Int := if s.kind = 2 then out.drop (out.length - wd.length) else out
def Tr.askT (s : Tr) : Option (List Int) := match s.pos with
  | some (.inl i) => some (s.sif ++ (s.nd i).wd)
  | _ => none
def Tr.leafT (s : Tr) : Option Nat := match s.pos with
  | some (.inr j) => some j
  | _ => none
def Tr.siftT (s : Tr) (w : List Int) : Tr × Int := if wdE w s.k ≠ 0 then (s, wdE w s.k) else ({ s with sif := w, pos := s.root }, 0)
def Tr.tellN (s : Tr) (i : Nat) (x : List Int) : Tr × Int := match s.ch i x with
  | some n => ({ s with pos := some n }, 0)
  | none => if s.nl = 1024 then (s, 3) else ({ s.leaf (some i) x ((s.nd i).pa ++ [((s.nd i).wd, x)]) s.sif with pos := some (.inr s.nl) }, 0)
def Tr.tellT (s : Tr) (out : List Int) : Tr × Int := match s.pos with
  | some (.inl i) => if fitR s (s.sif ++ (s.nd i).wd) out ≠ 0 then (s, 100) else s.tellN i (ofR s (s.nd i).wd out)
  | _ => (s, 7)
/-- Split: the error, and what is done. -/
def Tr.splE (s : Tr) (j : Int) (d w was now : List Int) : Int :=
  if ¬ (0 ≤ j ∧ j < (s.nl : Int)) then 32
  else if wdE d s.k ≠ 0 then wdE d s.k
  else if wdE w s.k ≠ 0 then wdE w s.k
  else if s.kind = 2 ∧ d.length = 0 then 1
  else if fitR s d was ≠ 0 ∨ fitR s d now ≠ 0 then 100
  else if was = now then 111
  else if ∃ i, i < s.nl ∧ (s.lf i).ac = w then 21
  else if s.nl = 1024 then 3
  else 0
def Tr.splD (s : Tr) (j : Nat) (d w was now : List Int) : Tr :=
  let s0 := { s with sif := [], pos := none }
  let s1 := s0.inner (s0.lf j).up (s0.lf j).an (s0.lf j).pa d
  let s2 := s1.moved j (some s.nn) was ((s.lf j).pa ++ [(d, was)])
  s2.leaf (some s.nn) now ((s.lf j).pa ++ [(d, now)]) w
end

end Go.Proofs.Ytlcablkhomnieaa

/-
  A tree of states, in plain words: nodes that are named stay there.
-/
namespace Go.Proofs.Ytlcablkhomnieaa
set_option linter.unusedVariables false

section
variable {s : Tr}
theorem Tr.Ok.hang (K : s.Ok) {n : Nd} (hn : s.is n) : (s.hang n).Ok where
  ch i x m hi hm := by
    have hm' : (match s.upN n with | none => s.ch | some u => updV s.ch u fun x => if x = s.anN n then some n else s.ch u x) i x = some m := hm
    cases q : s.upN n with
    | none => rw [q] at hm'; exact K.ch i x m hi hm'
    | some u =>
      rw [q] at hm'
      have hm2 : updV s.ch u (fun x => if x = s.anN n then some n else s.ch u x) i x = some m := hm'
      by_cases c : i = u
      · subst c
        rw [updV_same] at hm2
        by_cases e : x = s.anN n
        · rw [if_pos e] at hm2; cases hm2; exact hn
        · rw [if_neg e] at hm2; exact K.ch i x m hi hm2
      · rw [updV_ne c] at hm2; exact K.ch i x m hi hm2
  rt m hm := by
    have hm' : (if s.upN n = none then some n else s.root) = some m := hm
    split at hm'
    · cases hm'; exact hn
    · exact K.rt m hm'
  ps m hm := K.ps m hm
  un := K.un
  uf := K.uf
theorem Tr.is_addN {x : Inr} {n : Nd} (h : s.is n) : Tr.is { s with nn := s.nn + 1, nd := updV s.nd s.nn x, ch := updV s.ch s.nn fun _ => none } n := by
  cases n with
  | inl i => exact Nat.lt_succ_of_lt h
  | inr j => exact h
theorem Tr.Ok.addN (K : s.Ok) (x : Inr) (hx : ∀ u, x.up = some u → u < s.nn) : Tr.Ok { s with nn := s.nn + 1, nd := updV s.nd s.nn x, ch := updV s.ch s.nn fun _ => none } where
  ch i y m hi hm := by
    have hi' : i < s.nn + 1 := hi
    have hm' : updV s.ch s.nn (fun _ => none) i y = some m := hm
    by_cases c : i = s.nn
    · rw [c, updV_same] at hm'; cases hm'
    · rw [updV_ne c] at hm'; exact Tr.is_addN (K.ch i y m (by omega) hm')
  rt m hm := Tr.is_addN (K.rt m hm)
  ps m hm := Tr.is_addN (K.ps m hm)
  un i u hi hu := by
    have hi' : i < s.nn + 1 := hi
    show u < s.nn + 1
    have hu' : (updV s.nd s.nn x i).up = some u := hu
    by_cases c : i = s.nn
    · rw [c, updV_same] at hu'; have := hx u hu'; omega
    · rw [updV_ne c] at hu'; have := K.un i u (by omega) hu'; omega
  uf j u hj hu := by
    show u < s.nn + 1
    have := K.uf j u hj hu; omega
theorem Tr.is_addL {x : Lfr} {n : Nd} (h : s.is n) : Tr.is { s with nl := s.nl + 1, lf := updV s.lf s.nl x } n := by
  cases n with
  | inl i => exact h
  | inr j => exact Nat.lt_succ_of_lt h
theorem Tr.Ok.addL (K : s.Ok) (x : Lfr) (hx : ∀ u, x.up = some u → u < s.nn) : Tr.Ok { s with nl := s.nl + 1, lf := updV s.lf s.nl x } where
  ch i y m hi hm := Tr.is_addL (K.ch i y m hi hm)
  rt m hm := Tr.is_addL (K.rt m hm)
  ps m hm := Tr.is_addL (K.ps m hm)
  un := K.un
  uf j u hj hu := by
    have hj' : j < s.nl + 1 := hj
    have hu' : (updV s.lf s.nl x j).up = some u := hu
    by_cases c : j = s.nl
    · rw [c, updV_same] at hu'; exact hx u hu'
    · rw [updV_ne c] at hu'; exact K.uf j u (by omega) hu'
theorem Tr.is_mv {j : Nat} {x : Lfr} {n : Nd} (h : s.is n) : Tr.is { s with lf := updV s.lf j x } n := by
  cases n with
  | inl i => exact h
  | inr j => exact h
theorem Tr.Ok.mv (K : s.Ok) (j : Nat) (x : Lfr) (hx : ∀ u, x.up = some u → u < s.nn) : Tr.Ok { s with lf := updV s.lf j x } where
  ch i y m hi hm := Tr.is_mv (K.ch i y m hi hm)
  rt m hm := Tr.is_mv (K.rt m hm)
  ps m hm := Tr.is_mv (K.ps m hm)
  un := K.un
  uf i u hi hu := by
    have hu' : (updV s.lf j x i).up = some u := hu
    by_cases c : i = j
    · rw [c, updV_same] at hu'; exact hx u hu'
    · rw [updV_ne c] at hu'; exact K.uf i u hi hu'
theorem Tr.Ok.inner (K : s.Ok) (up : Option Nat) (an : List Int) (pa : Pth) (wd : List Int) (hx : ∀ u, up = some u → u < s.nn) : (s.inner up an pa wd).Ok :=
  (K.addN ⟨up, an, pa, wd⟩ hx).hang (show s.nn < s.nn + 1 from Nat.lt_succ_self _)
theorem Tr.Ok.leaf (K : s.Ok) (up : Option Nat) (an : List Int) (pa : Pth) (ac : List Int) (hx : ∀ u, up = some u → u < s.nn) : (s.leaf up an pa ac).Ok :=
  (K.addL ⟨up, an, pa, ac⟩ hx).hang (show s.nl < s.nl + 1 from Nat.lt_succ_self _)
theorem Tr.Ok.moved (K : s.Ok) {j : Nat} (hj : j < s.nl) (up : Option Nat) (an : List Int) (pa : Pth) (hx : ∀ u, up = some u → u < s.nn) : (s.moved j up an pa).Ok :=
  (K.mv j ⟨up, an, pa, (s.lf j).ac⟩ hx).hang (show j < s.nl from hj)
theorem Tr.Ok.off (K : s.Ok) (l : List Int) : Tr.Ok { s with sif := l, pos := none } where
  ch i x m hi hm := by
    have := K.ch i x m hi hm
    cases m with
    | inl i => exact this
    | inr j => exact this
  rt m hm := by
    have := K.rt m hm
    cases m with
    | inl i => exact this
    | inr j => exact this
  ps m hm := by cases hm
  un := K.un
  uf := K.uf
end

end Go.Proofs.Ytlcablkhomnieaa

/-
  A tree of states, in plain words: what holds of it stays so: Sift, Tell, Split.
-/
namespace Go.Proofs.Ytlcablkhomnieaa
set_option linter.unusedVariables false

section
variable {s : Tr}
theorem Tr.hang_some {n : Nd} {u : Nat} (h : s.upN n = some u) : s.hang n = { s with dep := max s.dep (s.paN n).length, ch := updV s.ch u fun x => if x = s.anN n then some n else s.ch u x } := by
  unfold Tr.hang; rw [h]; simp
theorem Tr.hang_none {n : Nd} (h : s.upN n = none) : s.hang n = { s with dep := max s.dep (s.paN n).length, root := some n } := by
  unfold Tr.hang; rw [h]; simp
/-- A new tree. -/
def trN (kind k o : Int) : Tr := (tr0 kind k o).leaf none [] [] []
theorem trN_eq (kind k o : Int) : trN kind k o = { tr0 kind k o with nl := 1, lf := updV (fun _ => lf0) 0 ⟨none, [], [], []⟩, root := some (.inr 0) } := by
  unfold trN Tr.leaf
  rw [Tr.hang_none (by simp [Tr.upN, updV_same, tr0])]
  simp [Tr.paN, updV_same, tr0]
theorem Tr.Wf.new {kind k o : Int} (kd : kind = 1 ∨ kind = 2) (k0 : 1 ≤ k) (k1 : k ≤ 64) (o0 : 1 ≤ o) (o1 : o ≤ 64) (od : kind = 1 → o = 2) : (trN kind k o).Wf := by
  rw [trN_eq]
  have hl : ∀ j : Nat, updV (fun _ => lf0) 0 (⟨none, [], [], []⟩ : Lfr) j = ⟨none, [], [], []⟩ := fun j => by unfold updV; split <;> rfl
  exact {
    kd := kd, k0 := k0, k1 := k1, o0 := o0, o1 := o1, od := od
    n0 := by show 0 < 1; omega
    n1 := by show 1 ≤ 1024; omega
    ok := ⟨fun i x n hi _ => absurd hi (Nat.not_lt_zero _), fun n hn => (by cases hn; exact Nat.zero_lt_one), fun n hn => (by cases hn), fun i u hi _ => absurd hi (Nat.not_lt_zero _), fun j u hj hu => by
      have q : (updV (fun _ => lf0) 0 (⟨none, [], [], []⟩ : Lfr) j).up = some u := hu
      rw [hl] at q; cases q⟩
    up0 := fun n hn _ => by
      cases n with
      | inl i => exact absurd hn (Nat.not_lt_zero _)
      | inr j =>
        have hj : j < 1 := hn
        obtain rfl : j = 0 := by omega
        exact ⟨by show (updV (fun _ => lf0) 0 (⟨none, [], [], []⟩ : Lfr) 0).pa = []; rw [hl], rfl⟩
    up1 := fun n u hn hu => by
      cases n with
      | inl i => exact absurd hn (Nat.not_lt_zero _)
      | inr j =>
        have : (updV (fun _ => lf0) 0 (⟨none, [], [], []⟩ : Lfr) j).up = some u := hu
        rw [hl] at this; cases this
    cu := fun u x n hu _ => absurd hu (Nat.not_lt_zero _)
    rt := ⟨.inr 0, rfl, by show (updV (fun _ => lf0) 0 (⟨none, [], [], []⟩ : Lfr) 0).up = none; rw [hl]⟩
    wd := fun i hi => absurd hi (Nat.not_lt_zero _)
    ac := fun j hj => by
      show Wrd k (updV (fun _ => lf0) 0 (⟨none, [], [], []⟩ : Lfr) j).ac ∧ (updV (fun _ => lf0) 0 (⟨none, [], [], []⟩ : Lfr) j).ac.length ≤ 4096
      rw [hl]; exact ⟨fun x hx => (by cases hx), by simp⟩
    le := fun i hi => absurd hi (Nat.not_lt_zero _)
    de := fun j hj => by
      show (updV (fun _ => lf0) 0 (⟨none, [], [], []⟩ : Lfr) j).pa.length ≤ 0
      rw [hl]; simp
    dx := ⟨0, Nat.zero_lt_one, by show (updV (fun _ => lf0) 0 (⟨none, [], [], []⟩ : Lfr) 0).pa.length = 0; rw [hl]; rfl⟩
    dn := Nat.le_refl 0
    si := ⟨by show ([] : List Int).length ≤ 4096; simp, fun x hx => by cases hx⟩
    sb := fun n hn => by
      cases n with
      | inl i => exact absurd hn (Nat.not_lt_zero _)
      | inr j =>
        show (∀ x ∈ (updV (fun _ => lf0) 0 (⟨none, [], [], []⟩ : Lfr) j).an, 0 ≤ x ∧ x < 256) ∧ (updV (fun _ => lf0) 0 (⟨none, [], [], []⟩ : Lfr) j).an.length ≤ 100000
        rw [hl]; exact ⟨fun x hx => (by cases hx), by simp⟩ }
theorem Tr.Ok.at (K : s.Ok) (l : List Int) (q : Option Nd) (hq : ∀ n, q = some n → s.is n) : Tr.Ok { s with sif := l, pos := q } where
  ch i x m hi hm := by
    have := K.ch i x m hi hm
    cases m with
    | inl i => exact this
    | inr j => exact this
  rt m hm := by
    have := K.rt m hm
    cases m with
    | inl i => exact this
    | inr j => exact this
  ps m hm := by
    have := hq m hm
    cases m with
    | inl i => exact this
    | inr j => exact this
  un := K.un
  uf := K.uf
theorem Tr.Wf.at (h : s.Wf) (l : List Int) (hl : l.length ≤ 4096 ∧ Wrd s.k l) (q : Option Nd) (hq : ∀ n, q = some n → s.is n) : Tr.Wf { s with sif := l, pos := q } := by
  have up0 := h.up0
  have up1 := h.up1
  have sb := h.sb
  exact { kd := h.kd, k0 := h.k0, k1 := h.k1, o0 := h.o0, o1 := h.o1, od := h.od, n0 := h.n0, n1 := h.n1, ok := h.ok.at l q hq
          up0 := fun n hn hu => by
            cases n with
            | inl i => exact up0 (.inl i) hn hu
            | inr j => exact up0 (.inr j) hn hu
          up1 := fun n u hn hu => by
            cases n with
            | inl i => exact up1 (.inl i) u hn hu
            | inr j => exact up1 (.inr j) u hn hu
          cu := fun u x n hu hc => by
            have := h.cu u x n hu hc
            cases n with
            | inl i => exact this
            | inr j => exact this
          rt := by
            obtain ⟨n, a, b⟩ := h.rt
            refine ⟨n, a, ?_⟩
            cases n with
            | inl i => exact b
            | inr j => exact b
          wd := h.wd, ac := h.ac, le := h.le, de := h.de, dx := h.dx, dn := h.dn, si := hl
          sb := fun n hn => by
            cases n with
            | inl i => exact sb (.inl i) hn
            | inr j => exact sb (.inr j) hn }
theorem Tr.Wf.root (h : s.Wf) : ∃ n, s.root = some n ∧ s.is n := by obtain ⟨n, a, b⟩ := h.rt; exact ⟨n, a, h.ok.rt n a⟩
theorem wdE_wrd {k : Int} {l : List Int} (h : wdE l k = 0) : l.length ≤ 4096 ∧ Wrd k l := by
  obtain ⟨_, _, hl, hd⟩ := word_of_chk h
  exact ⟨hl, fun x hx => by obtain ⟨p, hp, rfl⟩ := mem_gd hx; exact hd p hp⟩
theorem Tr.Wf.sift (h : s.Wf) (l : List Int) : (s.siftT l).1.Wf := by
  unfold Tr.siftT
  split
  · exact h
  · rename_i c
    have c' : wdE l s.k = 0 := by simpa using c
    exact h.at l (wdE_wrd c') s.root h.ok.rt
/-- A leaf more, below a node. -/
theorem Tr.Wf.leaf (h : s.Wf) {i : Nat} (hi : i < s.nn) {x : List Int} (hx : s.ch i x = none) (ha : s.ans (s.nd i).wd x) (hn : s.nl < 1024) (l : List Int) (hl : Wrd s.k l ∧ l.length ≤ 4096) (hsb : ∀ y ∈ x, 0 ≤ y ∧ y < 256) (hxl : x.length ≤ 100000) :
    (s.leaf (some i) x ((s.nd i).pa ++ [((s.nd i).wd, x)]) l).Wf := by
  have hdp := h.dpn hi
  have e : s.leaf (some i) x ((s.nd i).pa ++ [((s.nd i).wd, x)]) l = { s with nl := s.nl + 1, lf := updV s.lf s.nl ⟨some i, x, (s.nd i).pa ++ [((s.nd i).wd, x)], l⟩, ch := updV s.ch i fun y => if y = x then some (.inr s.nl) else s.ch i y } := by
    unfold Tr.leaf
    rw [Tr.hang_some (u := i) (by simp only [Tr.upN, updV_same])]
    have e1 : max s.dep ((s.nd i).pa ++ [((s.nd i).wd, x)]).length = s.dep := by rw [List.length_append, List.length_singleton]; omega
    simp only [Tr.paN, Tr.anN, updV_same, e1]
  have K := h.ok.leaf (some i) x ((s.nd i).pa ++ [((s.nd i).wd, x)]) l (fun u e => by cases e; exact hi)
  rw [e] at K ⊢
  obtain ⟨s', hs'⟩ : ∃ s', s' = ({ s with nl := s.nl + 1, lf := updV s.lf s.nl ⟨some i, x, (s.nd i).pa ++ [((s.nd i).wd, x)], l⟩, ch := updV s.ch i fun y => if y = x then some (.inr s.nl) else s.ch i y } : Tr) := ⟨_, rfl⟩
  have lo : ∀ n, s.is n → s'.upN n = s.upN n ∧ s'.anN n = s.anN n ∧ s'.paN n = s.paN n := fun n hn => by
    rw [hs']
    cases n with
    | inl k => exact ⟨rfl, rfl, rfl⟩
    | inr j =>
      have hj : j ≠ s.nl := fun e => by have : j < s.nl := hn; omega
      simp only [Tr.upN, Tr.anN, Tr.paN, updV_ne hj, and_self]
  have ln : s'.upN (.inr s.nl) = some i ∧ s'.anN (.inr s.nl) = x ∧ s'.paN (.inr s.nl) = (s.nd i).pa ++ [((s.nd i).wd, x)] := by
    rw [hs']; simp only [Tr.upN, Tr.anN, Tr.paN, updV_same, and_self]
  have cs : ∀ n, s'.is n → s.is n ∨ n = .inr s.nl := fun n hn => by
    rw [hs'] at hn
    cases n with
    | inl k => exact .inl hn
    | inr j =>
      have hj : j < s.nl + 1 := hn
      by_cases c : j = s.nl
      · right; rw [c]
      · left; show j < s.nl; omega
  have hch : ∀ u y, s'.ch u y = if u = i ∧ y = x then some (.inr s.nl) else s.ch u y := fun u y => by
    rw [hs']
    show updV s.ch i _ u y = _
    by_cases c : u = i
    · subst c
      rw [updV_same]
      by_cases d : y = x
      · rw [if_pos d, if_pos ⟨rfl, d⟩]
      · rw [if_neg d, if_neg fun q => d q.2]
    · rw [updV_ne c, if_neg fun q => c q.1]
  rw [← hs'] at K ⊢
  have f1 : s'.kind = s.kind := by rw [hs']
  have f2 : s'.k = s.k := by rw [hs']
  have f3 : s'.o = s.o := by rw [hs']
  have f4 : s'.nn = s.nn := by rw [hs']
  have f5 : s'.nl = s.nl + 1 := by rw [hs']
  have f6 : s'.nd = s.nd := by rw [hs']
  have f7 : s'.root = s.root := by rw [hs']
  have f8 : s'.dep = s.dep := by rw [hs']
  have f9 : s'.sif = s.sif := by rw [hs']
  have f10 : s'.lf = updV s.lf s.nl ⟨some i, x, (s.nd i).pa ++ [((s.nd i).wd, x)], l⟩ := by rw [hs']
  exact {
    kd := by rw [f1]; exact h.kd
    k0 := by rw [f2]; exact h.k0
    k1 := by rw [f2]; exact h.k1
    o0 := by rw [f3]; exact h.o0
    o1 := by rw [f3]; exact h.o1
    od := by rw [f1, f3]; exact h.od
    n0 := by rw [f4, f5]; have := h.n0; omega
    n1 := by rw [f5]; omega
    ok := K
    up0 := fun n hn hu => by
      rcases cs n hn with c | c
      · obtain ⟨a, b, d⟩ := lo n c
        rw [a] at hu; rw [d, f7]; exact h.up0 n c hu
      · rw [c, ln.1] at hu; cases hu
    up1 := fun n u hn hu => by
      rcases cs n hn with c | c
      · obtain ⟨a, b, d⟩ := lo n c
        rw [a] at hu
        obtain ⟨q1, q2⟩ := h.up1 n u c hu
        rw [d, b, f6]
        refine ⟨q1, ?_⟩
        rw [hch, if_neg]
        · exact q2
        · rintro ⟨r1, r2⟩
          rw [r1, r2, hx] at q2; cases q2
      · rw [c] at hu ⊢
        rw [ln.1] at hu
        injection hu with hu
        subst hu
        rw [ln.2.1, ln.2.2, f6]
        exact ⟨rfl, by rw [hch, if_pos ⟨rfl, rfl⟩]⟩
    cu := fun u y n hu hc => by
      rw [f4] at hu
      rw [hch] at hc
      have hans : ∀ {a b : List Int}, s'.ans a b ↔ s.ans a b := fun {a b} => by unfold Tr.ans; rw [f1, f3]
      by_cases q : u = i ∧ y = x
      · rw [if_pos q] at hc
        cases hc
        obtain ⟨rfl, rfl⟩ := q
        exact ⟨ln.1, ln.2.1, by rw [hans, f6]; exact ha⟩
      · rw [if_neg q] at hc
        obtain ⟨q1, q2, q3⟩ := h.cu u y n hu hc
        obtain ⟨a, b, d⟩ := lo n (h.ok.ch u y n hu hc)
        exact ⟨by rw [a]; exact q1, by rw [b]; exact q2, by rw [hans, f6]; exact q3⟩
    rt := by
      obtain ⟨n, a, b⟩ := h.rt
      exact ⟨n, by rw [f7]; exact a, by rw [(lo n (h.ok.rt n a)).1]; exact b⟩
    wd := fun k hk => by rw [f1, f2, f6]; rw [f4] at hk; exact h.wd k hk
    ac := fun j hj => by
      rw [f5] at hj
      rw [f2, f10]
      by_cases c : j = s.nl
      · rw [c, updV_same]; exact hl
      · rw [updV_ne c]; exact h.ac j (by omega)
    le := fun k hk => by
      rw [f4] at hk
      obtain ⟨j, hj, y, r, q⟩ := h.le k hk
      exact ⟨j, by omega, y, r, by rw [f10, f6, updV_ne (by omega)]; exact q⟩
    de := fun j hj => by
      rw [f5] at hj
      rw [f8, f10]
      by_cases c : j = s.nl
      · rw [c, updV_same]; show ((s.nd i).pa ++ [((s.nd i).wd, x)]).length ≤ _; rw [List.length_append, List.length_singleton]; omega
      · rw [updV_ne c]; exact h.de j (by omega)
    dx := by
      obtain ⟨j, hj, q⟩ := h.dx
      exact ⟨j, by omega, by rw [f10, f8, updV_ne (by omega)]; exact q⟩
    dn := by rw [f8, f4]; exact h.dn
    si := by rw [f2, f9]; exact h.si
    sb := fun n hn => by
      rcases cs n hn with c | c
      · rw [(lo n c).2.1]; exact h.sb n c
      · rw [c, ln.2.1]; exact ⟨hsb, hxl⟩ }
end

end Go.Proofs.Ytlcablkhomnieaa

/-
  A tree of states, in plain words: what holds of it stays so behind a Split.
-/
namespace Go.Proofs.Ytlcablkhomnieaa
set_option linter.unusedVariables false

section
variable {s : Tr}
/-- The tree behind a Split, field by field. -/
theorem splD_eq (j : Nat) (d w was now : List Int) (hj : j < s.nl) (hu : ∀ u, (s.lf j).up = some u → u < s.nn) :
    ∃ s', s' = s.splD j d w was now ∧ s'.kind = s.kind ∧ s'.k = s.k ∧ s'.o = s.o ∧ s'.nn = s.nn + 1 ∧ s'.nl = s.nl + 1 ∧ s'.sif = [] ∧ s'.pos = none ∧
      s'.nd = updV s.nd s.nn ⟨(s.lf j).up, (s.lf j).an, (s.lf j).pa, d⟩ ∧ s'.lf = updV (updV s.lf j ⟨some s.nn, was, (s.lf j).pa ++ [(d, was)], (s.lf j).ac⟩) s.nl ⟨some s.nn, now, (s.lf j).pa ++ [(d, now)], w⟩ ∧
      s'.dep = max s.dep ((s.lf j).pa.length + 1) ∧ s'.root = (if (s.lf j).up = none then some (.inl s.nn) else s.root) ∧
      ∀ v x, s'.ch v x = if v = s.nn then (if x = now then some (.inr s.nl) else if x = was then some (.inr j) else none) else if (s.lf j).up = some v ∧ x = (s.lf j).an then some (.inl s.nn) else s.ch v x := by
  refine ⟨_, rfl, rfl, rfl, rfl, rfl, rfl, rfl, rfl, rfl, rfl, ?_, ?_, ?_⟩
  · unfold Tr.splD Tr.leaf
    try simp only []
    rw [Tr.hang_some (u := s.nn) (by simp only [Tr.upN, updV_same])]
    simp only [Tr.paN, updV_same]
    unfold Tr.moved
    try simp only []
    rw [Tr.hang_some (u := s.nn) (by simp only [Tr.upN, updV_same])]
    simp only [Tr.paN, updV_same]
    unfold Tr.inner
    try simp only []
    cases hq : (s.lf j).up with
    | none =>
      rw [Tr.hang_none (by simp only [Tr.upN, updV_same])]
      simp only [Tr.paN, updV_same, List.length_append, List.length_singleton]
      omega
    | some u =>
      rw [Tr.hang_some (u := u) (by simp only [Tr.upN, updV_same])]
      simp only [Tr.paN, updV_same, List.length_append, List.length_singleton]
      omega
  · unfold Tr.splD Tr.leaf
    try simp only []
    rw [Tr.hang_some (u := s.nn) (by simp only [Tr.upN, updV_same])]
    unfold Tr.moved
    try simp only []
    rw [Tr.hang_some (u := s.nn) (by simp only [Tr.upN, updV_same])]
    unfold Tr.inner
    try simp only []
    cases hq : (s.lf j).up with
    | none =>
      rw [Tr.hang_none (by simp only [Tr.upN, updV_same])]
      simp
    | some u =>
      rw [Tr.hang_some (u := u) (by simp only [Tr.upN, updV_same])]
      simp
  · intro v x
    unfold Tr.splD Tr.leaf
    try simp only []
    rw [Tr.hang_some (u := s.nn) (by simp only [Tr.upN, updV_same])]
    simp only [Tr.anN, updV_same]
    unfold Tr.moved
    try simp only []
    rw [Tr.hang_some (u := s.nn) (by simp only [Tr.upN, updV_same])]
    simp only [Tr.anN, updV_same]
    unfold Tr.inner
    try simp only []
    cases hq : (s.lf j).up with
    | none =>
      rw [Tr.hang_none (by simp only [Tr.upN, updV_same])]
      try simp only []
      by_cases c : v = s.nn
      · subst c
        rw [if_pos rfl]
        simp only [updV_same]
      · rw [if_neg c, updV_ne c, updV_ne c, updV_ne c, if_neg (by rintro ⟨q, -⟩; cases q)]
    | some u =>
      have hun := hu u hq
      have hne : u ≠ s.nn := by omega
      rw [Tr.hang_some (u := u) (by simp only [Tr.upN, updV_same])]
      simp only [Tr.anN, updV_same]
      by_cases c : v = s.nn
      · subst c
        rw [if_pos rfl]
        simp only [updV_same]
        rw [updV_ne (Ne.symm hne), updV_same]
      · rw [if_neg c, updV_ne c, updV_ne c]
        by_cases e : v = u
        · subst e
          rw [updV_same, updV_ne c]
          by_cases f : x = (s.lf j).an
          · rw [if_pos f, if_pos ⟨rfl, f⟩]
          · rw [if_neg f, if_neg fun q => f q.2]
        · rw [updV_ne e, updV_ne c, if_neg]
          rintro ⟨q, -⟩
          injection q with q
          exact e q.symm
theorem Tr.Wf.split (h : s.Wf) {j : Nat} (hj : j < s.nl) {d w was now : List Int} (hd : Wrd s.k d ∧ d.length ≤ 4096 ∧ (s.kind = 2 → 0 < d.length)) (hw : Wrd s.k w ∧ w.length ≤ 4096) (a1 : s.ans d was) (a2 : s.ans d now) (hne : was ≠ now) (hn : s.nl < 1024)
    (b1 : (∀ y ∈ was, 0 ≤ y ∧ y < 256) ∧ was.length ≤ 100000) (b2 : (∀ y ∈ now, 0 ≤ y ∧ y < 256) ∧ now.length ≤ 100000) : (s.splD j d w was now).Wf := by
  have hup : ∀ u, (s.lf j).up = some u → u < s.nn := fun u e => h.ok.uf j u hj e
  have K : (s.splD j d w was now).Ok := by
    unfold Tr.splD
    refine Tr.Ok.leaf (Tr.Ok.moved (Tr.Ok.inner (h.ok.off []) _ _ _ _ hup) hj _ _ _ ?_) _ _ _ _ ?_
    · intro u e; cases e; exact Nat.lt_succ_self _
    · intro u e; cases e; exact Nat.lt_succ_self _
  obtain ⟨s', e0, f1, f2, f3, f4, f5, f6, f7, f8, f9, f10, f11, hch⟩ := splD_eq (s := s) j d w was now hj hup
  rw [← e0] at K ⊢
  have hjn : j ≠ s.nl := by omega
  have lo : ∀ n, s.is n → n ≠ .inr j → s'.upN n = s.upN n ∧ s'.anN n = s.anN n ∧ s'.paN n = s.paN n := fun n hn hnj => by
    cases n with
    | inl k =>
      have hk : k ≠ s.nn := fun e => by have : k < s.nn := hn; omega
      simp only [Tr.upN, Tr.anN, Tr.paN, f8, updV_ne hk, and_self]
    | inr i =>
      have hi : i ≠ s.nl := fun e => by have : i < s.nl := hn; omega
      have hij : i ≠ j := fun e => hnj (by rw [e])
      simp only [Tr.upN, Tr.anN, Tr.paN, f9, updV_ne hi, updV_ne hij, and_self]
  have ln : s'.upN (.inl s.nn) = (s.lf j).up ∧ s'.anN (.inl s.nn) = (s.lf j).an ∧ s'.paN (.inl s.nn) = (s.lf j).pa := by simp only [Tr.upN, Tr.anN, Tr.paN, f8, updV_same, and_self]
  have lj : s'.upN (.inr j) = some s.nn ∧ s'.anN (.inr j) = was ∧ s'.paN (.inr j) = (s.lf j).pa ++ [(d, was)] := by simp only [Tr.upN, Tr.anN, Tr.paN, f9, updV_ne hjn, updV_same, and_self]
  have lw : s'.upN (.inr s.nl) = some s.nn ∧ s'.anN (.inr s.nl) = now ∧ s'.paN (.inr s.nl) = (s.lf j).pa ++ [(d, now)] := by simp only [Tr.upN, Tr.anN, Tr.paN, f9, updV_same, and_self]
  have cs : ∀ n, s'.is n → (s.is n ∧ n ≠ .inr j) ∨ n = .inl s.nn ∨ n = .inr j ∨ n = .inr s.nl := fun n hn => by
    cases n with
    | inl k =>
      have hk : k < s'.nn := hn
      rw [f4] at hk
      by_cases c : k = s.nn
      · right; left; rw [c]
      · left; exact ⟨by show k < s.nn; omega, fun e => by cases e⟩
    | inr i =>
      have hi : i < s'.nl := hn
      rw [f5] at hi
      by_cases c : i = s.nl
      · right; right; right; rw [c]
      · by_cases c2 : i = j
        · right; right; left; rw [c2]
        · left; exact ⟨by show i < s.nl; omega, fun e => by injection e with e; exact c2 e⟩
  have hans : ∀ {a b : List Int}, s'.ans a b ↔ s.ans a b := fun {a b} => by unfold Tr.ans; rw [f1, f3]
  have ndo : ∀ u, u < s.nn → s'.nd u = s.nd u := fun u hu => by rw [f8, updV_ne (by omega)]
  have ndn : s'.nd s.nn = ⟨(s.lf j).up, (s.lf j).an, (s.lf j).pa, d⟩ := by rw [f8, updV_same]
  have jl : (s.paN (.inr j)).length ≤ s.dep := h.de j hj
  have upj : ∀ n, s.is n → s.upN n = s.upN (.inr j) → s.anN n = s.anN (.inr j) → n = .inr j := fun n hn e1 e2 => by
    cases q : s.upN (.inr j) with
    | none =>
      have a := (h.up0 n hn (e1.trans q)).2
      have b := (h.up0 (.inr j) hj q).2
      rw [a] at b; injection b
    | some u =>
      have a := (h.up1 n u hn (e1.trans q)).2
      have b := (h.up1 (.inr j) u hj q).2
      rw [e2, b] at a; injection a with a; exact a.symm
  exact {
    kd := by rw [f1]; exact h.kd
    k0 := by rw [f2]; exact h.k0
    k1 := by rw [f2]; exact h.k1
    o0 := by rw [f3]; exact h.o0
    o1 := by rw [f3]; exact h.o1
    od := by rw [f1, f3]; exact h.od
    n0 := by rw [f4, f5]; have := h.n0; omega
    n1 := by rw [f5]; omega
    ok := K
    up0 := fun n hn hu => by
      rcases cs n hn with ⟨c, c2⟩ | c | c | c
      · obtain ⟨a, b, e⟩ := lo n c c2
        rw [a] at hu
        obtain ⟨q1, q2⟩ := h.up0 n c hu
        rw [e, f11]
        refine ⟨q1, ?_⟩
        rw [if_neg]
        · exact q2
        · intro e1
          have := (h.up0 (.inr j) hj e1).2
          rw [q2] at this; injection this with this; exact c2 this
      · rw [c] at hu ⊢
        rw [ln.1] at hu
        rw [ln.2.2, f11, if_pos hu]
        exact ⟨(h.up0 (.inr j) hj hu).1, rfl⟩
      · rw [c, lj.1] at hu; cases hu
      · rw [c, lw.1] at hu; cases hu
    up1 := fun n u hn hu => by
      rcases cs n hn with ⟨c, c2⟩ | c | c | c
      · obtain ⟨a, b, e⟩ := lo n c c2
        rw [a] at hu
        obtain ⟨q1, q2⟩ := h.up1 n u c hu
        have hul : u < s.nn := by
          cases n with
          | inl i => exact h.ok.un i u c hu
          | inr i => exact h.ok.uf i u c hu
        rw [e, b, ndo u hul]
        refine ⟨q1, ?_⟩
        rw [hch, if_neg (by omega), if_neg]
        · exact q2
        · rintro ⟨r1, r2⟩
          exact c2 (upj n c (hu.trans r1.symm) r2)
      · rw [c] at hu ⊢
        rw [ln.1] at hu
        have hul := hup u hu
        obtain ⟨q1, q2⟩ := h.up1 (.inr j) u hj hu
        rw [ln.2.1, ln.2.2, ndo u hul]
        exact ⟨q1, by rw [hch, if_neg (by omega), if_pos ⟨hu, rfl⟩]⟩
      · rw [c] at hu ⊢
        rw [lj.1] at hu
        injection hu with hu
        subst hu
        rw [lj.2.1, lj.2.2, ndn]
        exact ⟨rfl, by rw [hch, if_pos rfl, if_neg hne, if_pos rfl]⟩
      · rw [c] at hu ⊢
        rw [lw.1] at hu
        injection hu with hu
        subst hu
        rw [lw.2.1, lw.2.2, ndn]
        exact ⟨rfl, by rw [hch, if_pos rfl, if_pos rfl]⟩
    cu := fun u y n hu hc => by
      rw [f4] at hu
      rw [hch] at hc
      by_cases c : u = s.nn
      · subst c
        rw [if_pos rfl] at hc
        rw [ndn]
        by_cases e : y = now
        · rw [if_pos e] at hc; cases hc
          exact ⟨lw.1, by rw [lw.2.1, e], by rw [hans, e]; exact a2⟩
        · rw [if_neg e] at hc
          by_cases e2 : y = was
          · rw [if_pos e2] at hc; cases hc
            exact ⟨lj.1, by rw [lj.2.1, e2], by rw [hans, e2]; exact a1⟩
          · rw [if_neg e2] at hc; cases hc
      · rw [if_neg c] at hc
        have hul : u < s.nn := by omega
        rw [ndo u hul]
        by_cases e : (s.lf j).up = some u ∧ y = (s.lf j).an
        · rw [if_pos e] at hc; cases hc
          obtain ⟨q1, q2⟩ := h.up1 (.inr j) u hj e.1
          obtain ⟨-, -, q3⟩ := h.cu u _ _ hul q2
          exact ⟨ln.1.trans e.1, ln.2.1.trans e.2.symm, by rw [hans, e.2]; exact q3⟩
        · rw [if_neg e] at hc
          obtain ⟨q1, q2, q3⟩ := h.cu u y n hul hc
          have hnj : n ≠ .inr j := fun q => by
            subst q
            exact e ⟨q1, q2.symm⟩
          obtain ⟨a, b, e2⟩ := lo n (h.ok.ch u y n hul hc) hnj
          exact ⟨a.trans q1, b.trans q2, by rw [hans]; exact q3⟩
    rt := by
      obtain ⟨n, a, b⟩ := h.rt
      by_cases c : (s.lf j).up = none
      · exact ⟨.inl s.nn, by rw [f11, if_pos c], by rw [ln.1]; exact c⟩
      · refine ⟨n, by rw [f11, if_neg c]; exact a, ?_⟩
        rw [(lo n (h.ok.rt n a) (fun q => by subst q; exact c b)).1]; exact b
    wd := fun k hk => by
      rw [f4] at hk
      rw [f1, f2]
      by_cases c : k = s.nn
      · rw [c, ndn]; exact hd
      · rw [ndo k (by omega)]; exact h.wd k (by omega)
    ac := fun i hi => by
      rw [f5] at hi
      rw [f2, f9]
      by_cases c : i = s.nl
      · rw [c, updV_same]; exact hw
      · rw [updV_ne c]
        by_cases c2 : i = j
        · rw [c2, updV_same]; exact h.ac j hj
        · rw [updV_ne c2]; exact h.ac i (by omega)
    le := fun k hk => by
      rw [f4] at hk
      by_cases c : k = s.nn
      · refine ⟨j, by omega, was, [], ?_⟩
        rw [c, ndn, f9, updV_ne hjn, updV_same]
      · obtain ⟨i, hi, y, r, q⟩ := h.le k (by omega)
        rw [ndo k (by omega)]
        by_cases c2 : i = j
        · subst c2
          refine ⟨i, by omega, y, r ++ [(d, was)], ?_⟩
          rw [f9, updV_ne hjn, updV_same]
          show (s.lf i).pa ++ [(d, was)] = _
          rw [q]; simp
        · exact ⟨i, by omega, y, r, by rw [f9, updV_ne (by omega), updV_ne c2]; exact q⟩
    de := fun i hi => by
      rw [f5] at hi
      rw [f10, f9]
      by_cases c : i = s.nl
      · rw [c, updV_same]; show ((s.lf j).pa ++ [(d, now)]).length ≤ _; rw [List.length_append, List.length_singleton]; omega
      · rw [updV_ne c]
        by_cases c2 : i = j
        · rw [c2, updV_same]; show ((s.lf j).pa ++ [(d, was)]).length ≤ _; rw [List.length_append, List.length_singleton]; omega
        · rw [updV_ne c2]; have := h.de i (by omega); omega
    dx := by
      by_cases c : (s.lf j).pa.length + 1 ≤ s.dep
      · obtain ⟨i, hi, q⟩ := h.dx
        have hij : i ≠ j := fun e => by rw [e] at q; omega
        exact ⟨i, by omega, by rw [f9, f10, updV_ne (by omega), updV_ne hij]; omega⟩
      · exact ⟨s.nl, by omega, by rw [f9, f10, updV_same]; show ((s.lf j).pa ++ [(d, now)]).length = _; rw [List.length_append, List.length_singleton]; omega⟩
    dn := by rw [f10, f4]; have h1 := h.dn; have h2 := h.de j hj; omega
    si := by rw [f6]; exact ⟨by simp, fun x hx => by cases hx⟩
    sb := fun n hn => by
      rcases cs n hn with ⟨c, c2⟩ | c | c | c
      · rw [(lo n c c2).2.1]; exact h.sb n c
      · rw [c, ln.2.1]; exact h.sb (.inr j) hj
      · rw [c, lj.2.1]; exact b1
      · rw [c, lw.2.1]; exact b2 }
end

end Go.Proofs.Ytlcablkhomnieaa

/-
  A tree of states, in plain words: the lowest node below which two leaves stand.
-/
namespace Go.Proofs.Ytlcablkhomnieaa
set_option linter.unusedVariables false

section
variable {s : Tr}
/-- Node r is the lowest one below which both leaves stand. -/
def Tr.low (s : Tr) (a b r : Nat) : Prop := r < s.nn ∧ ∃ x y ra rb, (s.lf a).pa = (s.nd r).pa ++ ((s.nd r).wd, x) :: ra ∧ (s.lf b).pa = (s.nd r).pa ++ ((s.nd r).wd, y) :: rb ∧ x ≠ y
/-- Node n stands above leaf a. -/
def Tr.abv (s : Tr) (n a : Nat) : Prop := n < s.nn ∧ ∃ x r, (s.lf a).pa = (s.nd n).pa ++ ((s.nd n).wd, x) :: r
theorem Tr.Wf.pre (h : s.Wf) : ∀ (l : Nat) (n : Nd), (s.paN n).length = l → s.is n → ∀ k, k < l → ∃ u, u < s.nn ∧ (s.nd u).pa = (s.paN n).take k ∧ ∃ x, (s.paN n)[k]? = some ((s.nd u).wd, x) := by
  intro l
  induction l with
  | zero => intro n _ _ k hk; omega
  | succ l ih =>
    intro n hl hn k hk
    cases q : s.upN n with
    | none => rw [(h.up0 n hn q).1] at hl; simp at hl
    | some u =>
      have hu : u < s.nn := by
        cases n with
        | inl i => exact h.ok.un i u hn q
        | inr j => exact h.ok.uf j u hn q
      have e := (h.up1 n u hn q).1
      have hul : (s.nd u).pa.length = l := by rw [e, List.length_append, List.length_singleton] at hl; omega
      by_cases c : k = l
      · refine ⟨u, hu, ?_, s.anN n, ?_⟩
        · rw [e, c, ← hul, List.take_left]
        · rw [e, c, ← hul, List.getElem?_append_right (Nat.le_refl _)]; simp
      · obtain ⟨v, hv, e1, x, e2⟩ := ih (.inl u) hul hu k (by omega)
        have e1' : (s.nd v).pa = (s.nd u).pa.take k := e1
        have e2' : (s.nd u).pa[k]? = some ((s.nd v).wd, x) := e2
        refine ⟨v, hv, ?_, x, ?_⟩
        · rw [e1', e, List.take_append_of_le_length (by omega)]
        · rw [e, List.getElem?_append_left (by omega)]; exact e2'
/-- There is one for two leaves that are not one. -/
theorem Tr.Wf.hasLow (h : s.Wf) {a b : Nat} (ha : a < s.nl) (hb : b < s.nl) (hne : a ≠ b) : ∃ r, s.low a b r := by
  have key : ∀ l, ∀ k, k + l = (s.lf a).pa.length → (s.lf a).pa.take k = (s.lf b).pa.take k → k ≤ (s.lf b).pa.length → ∃ r, s.low a b r := by
    intro l
    induction l with
    | zero =>
      intro k hk e hkb
      exfalso
      -- a's path begins b's
      have h1 : (s.lf a).pa.take k = (s.lf a).pa := List.take_of_length_le (by omega)
      rw [h1] at e
      by_cases c : k = (s.lf b).pa.length
      · have h2 : (s.lf b).pa.take k = (s.lf b).pa := List.take_of_length_le (by omega)
        rw [h2] at e
        have := h.one _ (.inr a) (.inr b) rfl ha hb e
        injection this with this
        exact hne this
      · obtain ⟨u, hu, e1, x, e2⟩ := h.pre _ (.inr b) rfl hb k (by show k < (s.lf b).pa.length; omega)
        have e1' : (s.nd u).pa = (s.lf b).pa.take k := e1
        have := h.one _ (.inl u) (.inr a) rfl hu ha (by show (s.nd u).pa = (s.lf a).pa; rw [e1', e])
        cases this
    | succ l ih =>
      intro k hk e hkb
      obtain ⟨u, hu, e1, x, e2⟩ := h.pre _ (.inr a) rfl ha k (by show k < (s.lf a).pa.length; omega)
      have e1' : (s.nd u).pa = (s.lf a).pa.take k := e1
      have e2' : (s.lf a).pa[k]? = some ((s.nd u).wd, x) := e2
      by_cases c : k = (s.lf b).pa.length
      · exfalso
        have h2 : (s.lf b).pa.take k = (s.lf b).pa := List.take_of_length_le (by omega)
        have := h.one _ (.inl u) (.inr b) rfl hu hb (by show (s.nd u).pa = (s.lf b).pa; rw [e1', e, h2])
        cases this
      · obtain ⟨v, hv, f1, y, f2⟩ := h.pre _ (.inr b) rfl hb k (by show k < (s.lf b).pa.length; omega)
        have f1' : (s.nd v).pa = (s.lf b).pa.take k := f1
        have f2' : (s.lf b).pa[k]? = some ((s.nd v).wd, y) := f2
        have huv := h.one _ (.inl u) (.inl v) rfl hu hv (by show (s.nd u).pa = (s.nd v).pa; rw [e1', f1', e])
        injection huv with huv
        subst huv
        have sa : (s.lf a).pa = (s.nd u).pa ++ ((s.nd u).wd, x) :: (s.lf a).pa.drop (k + 1) := by
          rw [e1']
          have hk2 : k < (s.lf a).pa.length := by omega
          have e3 : (s.lf a).pa[k] = ((s.nd u).wd, x) := by rw [List.getElem?_eq_getElem hk2] at e2'; exact Option.some.inj e2'
          rw [← e3, List.getElem_cons_drop, List.take_append_drop]
        have sb : (s.lf b).pa = (s.nd u).pa ++ ((s.nd u).wd, y) :: (s.lf b).pa.drop (k + 1) := by
          rw [f1']
          have hk2 : k < (s.lf b).pa.length := by omega
          have e3 : (s.lf b).pa[k] = ((s.nd u).wd, y) := by rw [List.getElem?_eq_getElem hk2] at f2'; exact Option.some.inj f2'
          rw [← e3, List.getElem_cons_drop, List.take_append_drop]
        by_cases d : x = y
        · subst d
          refine ih (k + 1) (by omega) ?_ (by omega)
          rw [List.take_add_one, List.take_add_one, e, e2', f2']
        · exact ⟨u, hu, x, y, _, _, sa, sb, d⟩
  exact key (s.lf a).pa.length 0 (Nat.zero_add _) (by simp) (Nat.zero_le _)
/-- Above both, with the lowest one's path ahead: it is that one. -/
theorem Tr.Wf.lowOne (h : s.Wf) {a b r n : Nat} (hr : s.low a b r) (h1 : s.abv n a) (h2 : s.abv n b) (hp : (s.nd r).pa <+: (s.nd n).pa) : n = r := by
  obtain ⟨r0, x, y, ra, rb, p1, p2, hxy⟩ := hr
  obtain ⟨n0, z, q, e1⟩ := h1
  obtain ⟨-, z', q', e2⟩ := h2
  obtain ⟨t, ht⟩ := hp
  cases t with
  | nil =>
    rw [List.append_nil] at ht
    have := h.one _ (.inl n) (.inl r) rfl n0 r0 ht.symm
    injection this
  | cons v t =>
    exfalso
    rw [← ht, p1, List.append_assoc] at e1
    rw [← ht, p2, List.append_assoc] at e2
    have e1' := List.append_cancel_left e1
    have e2' := List.append_cancel_left e2
    rw [List.cons_append] at e1' e2'
    injection e1' with u1 _
    injection e2' with u2 _
    rw [← u1] at u2
    injection u2 with _ u2
    exact hxy u2.symm
theorem Tr.low_abv {a b r : Nat} (h : s.low a b r) : s.abv r a ∧ s.abv r b := by
  obtain ⟨r0, x, y, ra, rb, p1, p2, hxy⟩ := h
  exact ⟨⟨r0, x, ra, p1⟩, ⟨r0, y, rb, p2⟩⟩
/-- Two that stand above one leaf: the one's path begins the other's. -/
theorem Tr.abv_pre {a n r : Nat} (h1 : s.abv n a) (h2 : s.abv r a) (hl : (s.nd r).pa.length ≤ (s.nd n).pa.length) : (s.nd r).pa <+: (s.nd n).pa := by
  obtain ⟨-, x, q, e1⟩ := h1
  obtain ⟨-, y, q', e2⟩ := h2
  have p1 : (s.nd n).pa <+: (s.lf a).pa := ⟨_, e1.symm⟩
  have p2 : (s.nd r).pa <+: (s.lf a).pa := ⟨_, e2.symm⟩
  exact List.prefix_of_prefix_length_le p2 p1 hl
/-- One step up, where the lowest one is further up. -/
theorem Tr.Wf.climb (h : s.Wf) {a n : Nat} (h1 : s.abv n a) (h0 : 0 < (s.nd n).pa.length) : ∃ u, (s.nd n).up = some u ∧ s.abv u a ∧ (s.nd u).pa.length + 1 = (s.nd n).pa.length := by
  obtain ⟨n0, x, q, e1⟩ := h1
  cases hu : (s.nd n).up with
  | none =>
    have := (h.up0 (.inl n) n0 hu).1
    have : (s.nd n).pa = [] := this
    rw [this] at h0; simp at h0
  | some u =>
    have hul := h.ok.un n u n0 hu
    have e := (h.up1 (.inl n) u n0 hu).1
    have e' : (s.nd n).pa = (s.nd u).pa ++ [((s.nd u).wd, s.anN (.inl n))] := e
    refine ⟨u, rfl, ⟨hul, s.anN (.inl n), ((s.nd n).wd, x) :: q, ?_⟩, ?_⟩
    · rw [e1, e']; simp
    · rw [e']; simp
theorem Tr.Wf.start (h : s.Wf) {a : Nat} (ha : a < s.nl) (h0 : 0 < (s.lf a).pa.length) : ∃ u, (s.lf a).up = some u ∧ s.abv u a := by
  cases hu : (s.lf a).up with
  | none =>
    have := (h.up0 (.inr a) ha hu).1
    have : (s.lf a).pa = [] := this
    rw [this] at h0; simp at h0
  | some u =>
    have hul := h.ok.uf a u ha hu
    have e := (h.up1 (.inr a) u ha hu).1
    have e' : (s.lf a).pa = (s.nd u).pa ++ [((s.nd u).wd, s.anN (.inr a))] := e
    exact ⟨u, rfl, hul, s.anN (.inr a), [], e'⟩
end

end Go.Proofs.Ytlcablkhomnieaa
