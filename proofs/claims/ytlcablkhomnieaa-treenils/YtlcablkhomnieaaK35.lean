/-
  Some texts of this seat, one behind the other.
-/
import Derived.DeepKeys4
import Derived.Laws.Cover1
import Derived.Maps.OwnOps
import Derived.Maps.OwnSet
import Derived.Test.YtlcablkhomnieaaGSet
import Derived.Test.YtlcablkhomnieaaHSrc
import Derived.Test.YtlcablkhomnieaaK1
import Derived.Test.YtlcablkhomnieaaK19
import Derived.Test.YtlcablkhomnieaaK3
import Derived.Test.YtlcablkhomnieaaNIs
import Derived.Test.YtlcablkhomnieaaUStr
/-
  The program's strings: spell, symbol, numbers, compare.
-/
namespace Go.Proofs.Ytlcablkhomnieaa
open Go.RowKit

/-- make([]T, n). -/
theorem wplL_make {w : World} {ops : Array Oper} {rest : List Oper} {o : Oper} {a : Act} {Q : Exit → Act → World → Prop} {q : IntKind} {t st : TypeId} {k : Nat} (E : Elt q t st k) (hgd : o.guard = none) (l c : Operand) (ho : o.op = Op.makeSlice st l c) (B : Nat) (L C : Int) (n : Nat)
    (hl : a.eval l = .int .i64 L) (hc : a.eval c = .int .i64 C) (hL : L = (n : Int)) (hC : C = (n : Int)) (hbytes : k * n ≤ 140737488355328) (hbase : B ≤ w.heap.size)
    (h : ∀ w', OwnL q t w' B (.slice (some ⟨w.heap.size, 0, none⟩) n n) (List.replicate n 0) → Below B w w' → wpList Try.prog ops Q rest (a.put o.dst (.slice (some ⟨w.heap.size, 0, none⟩) n n)) w') :
    wpList Try.prog ops Q (o :: rest) a w := by
  obtain ⟨i, hi, hz0, hz1, hz2⟩ := info_parts E.info
  have hk := E.pos
  have hlen : n ≤ maxLen := by
    have : 1 * n ≤ k * n := Nat.mul_le_mul_right _ hk
    unfold maxLen; omega
  refine wpList_make_full w hgd l c st ho B t i (.int q 0) 1 E.und hi hz0 hz1 .i64 .i64 L C n hl hc hL hC (by rw [hz2]; omega) hlen hbase ?_
  intro w' h1 h2
  refine h w' ?_ ((Below.refl B w).grown h2 hbase fun k hk => by cases hk)
  unfold OwnL
  have e : (madeCells (Value.int q 0).cells (n * 1)).toList = (List.replicate n (0 : Int)).map (Value.int q) := by
    show (madeCells #[.int q 0] (n * 1)).toList = _
    rw [toList_madeCells_one, Nat.mul_one, List.map_replicate]
  rw [List.length_replicate, ← e]; exact h1
theorem set_takes {l : List Int} {z : Int} {j : Nat} (hj : j < l.length) : (l.take j ++ List.replicate (l.length - j) z).set j (l.getD j 0) = l.take (j + 1) ++ List.replicate (l.length - (j + 1)) z := by
  have e : l.length - j = (l.length - (j + 1)) + 1 := by omega
  have h1 : (l.take j).length = j := by rw [List.length_take]; omega
  rw [List.set_append, if_neg (by omega), h1, Nat.sub_self, e, List.replicate_succ, List.set_cons_zero, List.take_succ_eq_append_getElem hj, List.getD_eq_getElem?_getD, List.getElem?_eq_getElem hj, List.append_assoc]
  rfl
theorem takes_len {l : List Int} {z : Int} {j : Nat} (hj : j ≤ l.length) : (l.take j ++ List.replicate (l.length - j) z).length = l.length := by simp; omega
theorem wrap8 {x : Int} (h0 : 0 ≤ x) (h1 : x < 256) : IntKind.u8.wrap x = x := by
  simp only [IntKind.wrap]
  first | omega | (simp [IntKind.bits, IntKind.signed] ; omega) | simp; omega

theorem OwnL.storeN {q : IntKind} {t : TypeId} {w : World} {B g n cap : Nat} {L : List Int} (h : OwnL q t w B (.slice (some ⟨g, 0, none⟩) n cap) L) (hn : L.length = n) (j : Nat) (x : Int) :
    OwnL q t (w.setCell ⟨g, j, none⟩ (.int q x)) B (.slice (some ⟨g, 0, none⟩) n cap) (L.set j x) := by subst hn; exact h.store j x
theorem OwnL.cellN {q : IntKind} {t : TypeId} {w : World} {B g n cap : Nat} {L : List Int} (h : OwnL q t w B (.slice (some ⟨g, 0, none⟩) n cap) L) (hn : L.length = n) :
    (∀ i, i < n → w.cell? ⟨g, i, none⟩ = some (.int q (L.getD i 0))) ∧ (∀ i, w.frozen? ⟨g, i, none⟩ = false) ∧ g < w.heap.size ∧ B ≤ g := by
  subst hn
  by_cases h0 : 0 < L.length
  · obtain ⟨g', c', e, _, _, h1, h2, h3, h4⟩ := h.pos h0
    cases e
    exact ⟨h3, h4, h2, h1⟩
  · exact ⟨fun i hi => by omega, fun i => World.ownsRow.frozenAt h i, (h.lt rfl).2, (h.lt rfl).1⟩

end Go.Proofs.Ytlcablkhomnieaa

/-
  Maps, by what they say of each key: made, asked, written.
-/
namespace Go.Proofs.Ytlcablkhomnieaa
open Go.RowKit Go.Maps Go.ChangeMaps

/-- An element as it is. -/
def tokR (v : Value) : Option (DataW Value × List MemPlace) := some (.held v, [])
theorem tokR_inj {v u : Value} {ps : List MemPlace} (h : tokR v = some (.held u, ps)) : v = u := by
  unfold tokR at h; injection h with h; injection h with h _; injection h
/-- What the keys are. -/
structure Keys (K : TypeId) {κ : Type} (ek : κ → Value) (ok : κ → Prop) : Prop where
  law : Keyed Try.prog K
  of : ∀ x, ok x → ∃ kl, keyOf Try.prog K (ek x) = some kl
  inj : ∀ x y, ok x → ok y → ek x = ek y → x = y
/-- The map at block b has s entries, and says f. -/
def FMap (K : TypeId) {κ : Type} (ek : κ → Value) (ok : κ → Prop) (w : World) (b s : Nat) (f : κ → Option Value) : Prop :=
  ∃ D : DataW Value, w.ownsMap Try.prog K tokR b s D ∧ Maps.size D = s ∧ ∀ x kl, ok x → keyOf Try.prog K (ek x) = some kl → Maps.has D kl = (f x).isSome ∧ ∀ v z, f x = some v → D.atKey kl z = .held v
section
variable {K : TypeId} {κ : Type} {ek : κ → Value} {ok : κ → Prop} {w w' : World} {b s : Nat} {f : κ → Option Value}
theorem FMap.made (w : World) : FMap K ek ok (w.alloc (.map #[] 0)) w.heap.size 0 (fun _ => none) :=
  ⟨.map [], World.ownsMap_made _ _ _ _, rfl, fun x kl _ _ => ⟨by simp [Maps.has], fun v z h => by cases h⟩⟩
theorem FMap.keep (h : FMap K ek ok w b s f) (e : w'.heap[b]? = w.heap[b]?) : FMap K ek ok w' b s f := by
  obtain ⟨D, ⟨es, clock, hb, r⟩, h2⟩ := h
  exact ⟨D, ⟨es, clock, e.trans hb, r⟩, h2⟩
theorem FMap.lt (h : FMap K ek ok w b s f) : b < w.heap.size := by
  obtain ⟨D, h1, _⟩ := h
  exact h1.lt
theorem FMap.below (h : FMap K ek ok w b s f) (hb : Below w.heap.size w w') : FMap K ek ok w' b s f := h.keep (hb.block b h.lt)
theorem FMap.isMap (h : FMap K ek ok w b s f) : ∃ es c, w.heap[b]? = some (.map es c) := by
  obtain ⟨D, ⟨es, clock, hb, r⟩, h2⟩ := h
  exact ⟨es, clock, hb⟩
theorem FMap.look (k : Keys K ek ok) (h : FMap K ek ok w b s f) {t e : TypeId} (ht : Try.prog.underlying t = some (.map K e)) {z : Value} (hz : (zeroValue e).run Try.prog w = .ok z w) {x : κ} (hx : ok x) :
    (Instr.lookup t (.map (some b)) (ek x) true).run Try.prog w = .ok (.tuple #[(f x).getD z, .bool (f x).isSome]) w := by
  obtain ⟨D, h1, _, h3⟩ := h
  obtain ⟨kl, hk⟩ := k.of x hx
  obtain ⟨a1, a2⟩ := h3 x kl hx hk
  obtain ⟨v, ps, hr, hv⟩ := h1.look_ok k.law ht hz (zd := .held z) (zp := []) rfl hk
  rw [hr, a1]
  cases q : f x with
  | none =>
    rw [q] at a1
    rw [atKey_of_not_has a1] at hv
    rw [tokR_inj hv]; rfl
  | some u =>
    rw [a2 u _ q] at hv
    rw [tokR_inj hv]; rfl
theorem FMap.look1 (k : Keys K ek ok) (h : FMap K ek ok w b s f) {t e : TypeId} (ht : Try.prog.underlying t = some (.map K e)) {z : Value} (hz : (zeroValue e).run Try.prog w = .ok z w) {x : κ} (hx : ok x) :
    (Instr.lookup t (.map (some b)) (ek x) false).run Try.prog w = .ok ((f x).getD z) w := by
  obtain ⟨D, h1, _, h3⟩ := h
  obtain ⟨kl, hk⟩ := k.of x hx
  obtain ⟨a1, a2⟩ := h3 x kl hx hk
  obtain ⟨v, ps, hr, hv⟩ := h1.lookup k.law ht hz (zd := .held z) (zp := []) rfl hk
  rw [hr]
  cases q : f x with
  | none =>
    rw [q] at a1
    rw [atKey_of_not_has a1] at hv
    rw [tokR_inj hv]; rfl
  | some u =>
    rw [a2 u _ q] at hv
    rw [tokR_inj hv]; rfl
theorem FMap.len (h : FMap K ek ok w b s f) {t e : TypeId} (ht : Try.prog.underlying t = some (.map K e)) (ty : TypeId) : (Builtin.len_ #[t] ty #[.map (some b)]).run Try.prog w = .ok (.int .i64 s) w := by
  obtain ⟨D, h1, h2, _⟩ := h
  rw [← h2]
  exact h1.len ht ty
/-- m[x] = v. -/
theorem FMap.put [DecidableEq κ] (k : Keys K ek ok) (h : FMap K ek ok w b s f) {t e : TypeId} (ht : Try.prog.underlying t = some (.map K e)) (hs : s < maxLen) {x : κ} (hx : ok x) (v : Value) :
    ∃ w', (Instr.mapUpdate t (.map (some b)) (ek x) v).run Try.prog w = .ok () w' ∧ FMap K ek ok w' b (if (f x).isSome = true then s else s + 1) (fun y => if y = x then some v else f y) ∧ w.mapTurned w' b := by
  obtain ⟨D, h1, h2, h3⟩ := h
  obtain ⟨kl, hk⟩ := k.of x hx
  obtain ⟨a1, a2⟩ := h3 x kl hx hk
  obtain ⟨w', hr, g1, g2⟩ := h1.store k.law ht hs (val := v) (d := .held v) (ps := []) hk rfl
  have hT := h1.tidy k.law
  have hlit := k.law.key hk
  have hsz : Maps.size (D.put kl (.held v)) = if (f x).isSome = true then s else s + 1 := by rw [size_put hT, a1, h2]
  refine ⟨w', hr, ⟨D.put kl (.held v), ?_, hsz, ?_⟩, g2⟩
  · obtain ⟨es, clock, e1, e2, e3, e4⟩ := g1
    refine ⟨es, clock, e1, e2, ?_, e4⟩
    rw [← hsz, e4]
    show es.size ≤ _
    rw [size_eq, length_read]
    exact Nat.le_refl _
  · intro y kl' hy hk'
    by_cases c : y = x
    · subst c
      have : kl' = kl := Option.some.inj (hk'.symm.trans hk)
      subst this
      refine ⟨by rw [has_put_same hT.isMap hlit]; show true = (if y = y then some v else f y).isSome; rw [if_pos rfl]; rfl, fun u z hu => ?_⟩
      rw [atKey_put_same hT.isMap hlit]
      have hu' : (if y = y then some v else f y) = some u := hu
      rw [if_pos rfl] at hu'
      rw [Option.some.inj hu']
    · have hne : kl' ≠ kl := fun q => by
        subst q
        exact c (k.inj y x hy hx (k.law.inj hk' hk))
      obtain ⟨b1, b2⟩ := h3 y kl' hy hk'
      refine ⟨by rw [has_put_other hne, b1]; show (f y).isSome = (if y = x then some v else f y).isSome; rw [if_neg c], fun u z hu => ?_⟩
      rw [atKey_put_other hne]
      refine b2 u z ?_
      have hu' : (if y = x then some v else f y) = some u := hu
      rwa [if_neg c] at hu'
end
theorem Bx.turned {X : Nat → Prop} {a w w' : World} {b : Nat} (h : Bx X a w) (g : w.mapTurned w' b) (hx : X b) : Bx X a w' := h.grown g.grown (fun k e _ => by cases e; exact hx)

/-- Keys that are strings. -/
def okS (l : List Int) : Prop := Sb l ∧ l.length ≤ 1000000000
def okI (x : Nat) : Prop := x ≤ 1000000000
theorem keysI : Keys 3 (fun x : Nat => .int .i64 (x : Int)) okI where
  law := int_keyed Try.underlying3
  of x hx := ⟨_, keyOf_int_mk Try.underlying3 (WalkArith.wf_i64 (by unfold okI at hx; omega))⟩
  inj x y _ _ e := by injection e with _ e; omega
/-- Keys that are steps: a number and a string. -/
def ekP (p : Nat × List Int) : Value := .agg #[.int .i64 (p.1 : Int), .string (sp p.2)]
def okP (p : Nat × List Int) : Prop := p.1 ≤ 1000000000 ∧ okS p.2
end Go.Proofs.Ytlcablkhomnieaa

/-
  The program's table in memory: ten cells, five rows, two maps; what stays and what turns.
-/
namespace Go.Proofs.Ytlcablkhomnieaa
open Go.RowKit

/-- A line: a row or an edge. -/
structure Ln where
  wd : List Int
  ed : Nat
  cp : Nat
  cl : Nat
def ln0 : Ln := ⟨[], 0, 0, 0⟩
def lnE (x : Ln) : List Value := [.string (sp x.wd), .int .i64 (x.ed : Int), .int .i64 (x.cp : Int), .int .i64 (x.cl : Int)]
def spE (x : List Int) : List Value := [.string (sp x)]
def ceV (x : List Int) : Value := .agg #[.string (sp x)]
def lnV (x : Ln) : Value := .agg #[.string (sp x.wd), .int .i64 (x.ed : Int), .int .i64 (x.cp : Int), .int .i64 (x.cl : Int)]
/-- What a table of the program's holds. -/
structure Ts where
  kind : Int
  K : Nat
  o : Int
  f : List Int → Option (List Int)
  nf : Nat
  ls : List Ln
  rows : List Nat
  ord : List Nat
  cols : List (List Int)
  kn : List Nat
  cls : List (Nat × List Int)
def Ts.ln (s : Ts) (i : Nat) : Ln := s.ls.getD i ln0
/-- Where it lies. -/
structure Tl where
  b : Nat
  mf : Nat
  mc : Nat
  gl : Nat
  cl : Nat
  go : Nat
  co : Nat
  ar : Option Addr
  cr : Nat
  ac : Option Addr
  cc : Nat
  ak : Option Addr
  ck : Nat
def obk (a : Option Addr) : Option Nat := a.map (·.block)
def Tl.bk (p : Tl) (i : Nat) : Option Nat :=
  if i = 0 then some p.b else if i = 1 then some p.mf else if i = 2 then some p.mc else if i = 3 then some p.gl else if i = 4 then some p.go else if i = 5 then obk p.ar else if i = 6 then obk p.ac else if i = 7 then obk p.ak else none
def Tl.has (p : Tl) (k : Nat) : Prop := ∃ i, p.bk i = some k
def toC (p : Tl) (s : Ts) : List Value := [.int .i64 s.kind, .int .i64 (s.K : Int), .int .i64 s.o, .map (some p.mf), .slice (some ⟨p.gl, 0, none⟩) s.ls.length p.cl, .slice p.ar s.rows.length p.cr, .slice (some ⟨p.go, 0, none⟩) s.ord.length p.co, .slice p.ac s.cols.length p.cc, .slice p.ak s.kn.length p.ck, .map (some p.mc)]
def clsF (cls : List (Nat × List Int)) (x : Nat × List Int) : Option Value := if x ∈ cls then some (.int .i64 ((cls.idxOf x + 1 : Nat) : Int)) else none
def celF (f : List Int → Option (List Int)) (x : List Int) : Option Value := (f x).map ceV
theorem lnE_len (x : Ln) : (lnE x).length = 4 := rfl
theorem spE_len (x : List Int) : (spE x).length = 1 := rfl
section
variable {B : Nat} {w w' : World} {p : Tl} {s : Ts}
theorem ob_sl {a : Option Addr} {n c : Nat} : (Value.slice a n c).ownBlock = obk a := by cases a <;> rfl
/-- A number of a row of numbers. -/
theorem own_at {a : Option Addr} {n c : Nat} {l : List Nat} (h : OwnL .i64 3 w B (.slice a n c) (ni l)) {i : Nat} (hi : i < l.length) : ∃ g, a = some ⟨g, 0, none⟩ ∧ n = l.length ∧ n ≤ c ∧ c ≤ maxLen ∧ w.cell? ⟨g, i, none⟩ = some (.int .i64 ((l.getD i 0 : Nat) : Int)) ∧ ∀ j, w.frozen? ⟨g, j, none⟩ = false := by
  obtain ⟨g, c', e, h0, h00, _, _, h1, h2⟩ := h.pos (by rw [ni_len]; omega)
  injection e with e1 e2 e3
  subst e3
  rw [ni_len] at e2 h0
  have := h1 i (by rw [ni_len]; exact hi)
  rw [ni_at] at this
  exact ⟨g, e1, e2, by omega, h00, this, h2⟩
end

end Go.Proofs.Ytlcablkhomnieaa

/-
  The program's table in plain words: cells, what holds of its lines.
-/
namespace Go.Proofs.Ytlcablkhomnieaa

/-- A cell, if it is known; of a word that is too long nothing is said. -/
def Ts.cel (s : Ts) (u e : List Int) : Option (List Int) := if 4096 < u.length + e.length then some [] else (s.f (u ++ e)).map fun o => if s.kind = 2 then o.drop u.length else o
def Ts.wd (s : Ts) (i : Nat) : List Int := (s.ln i).wd
def Ts.co (s : Ts) (c : Nat) : List Int := s.cols.getD c []
def Ts.rw (s : Ts) (i : Nat) : Nat := s.rows.getD i 0
/-- What is seen of a table, and holds. -/
structure Vi (s : Ts) : Prop where
  k1 : 1 ≤ s.K
  k2 : s.K ≤ 64
  kd : s.kind = 1 ∨ s.kind = 2
  len : s.ls.length = 1 + s.K * s.rows.length
  rl : s.rows.length ≤ 1024
  r0 : s.wd 0 = []
  rg : ∀ i, i < s.rows.length → s.rw i < 1 + s.K * i ∧ (s.ln (s.rw i)).ed = 1 + s.K * i
  ed : ∀ i x, i < s.rows.length → x < s.K → s.wd (1 + s.K * i + x) = s.wd (s.rw i) ++ [(x : Int)]
  no : ∀ p, p ∉ s.rows → (s.ln p).ed = 0
  nd : ∀ i j, i < s.ls.length → j < s.ls.length → s.wd i = s.wd j → i = j
  sy : ∀ i x, x ∈ s.wd i → 0 ≤ x ∧ x < (s.K : Int)
  wl : ∀ i, i < s.ls.length → (s.wd i).length ≤ s.rows.length
  ol : s.ord.length = s.ls.length
  om : ∀ i, i < s.ls.length → s.ord.getD i 0 < s.ls.length
  os : ∀ i j, i < j → j < s.ls.length → Ahd (s.wd (s.ord.getD i 0)) (s.wd (s.ord.getD j 0))
  oa : ∀ p, p < s.ls.length → ∃ i, i < s.ls.length ∧ s.ord.getD i 0 = p
  cl : s.cols.length ≤ 1024
  cw : ∀ e ∈ s.cols, e.length ≤ 4096 ∧ ∀ x ∈ e, 0 ≤ x ∧ x < (s.K : Int)
  cn : s.cols.Nodup
  kl : s.kn.length = s.cols.length
  fw : ∀ w o, s.f w = some o → w.length ≤ 4096 ∧ (∀ x ∈ w, 0 ≤ x ∧ x < (s.K : Int)) ∧ Sb o ∧ o.length ≤ 4096 ∧ (s.kind = 2 → o.length = w.length) ∧ (s.kind = 1 → o.length = 1)
theorem Vi.sb {s : Ts} (h : Vi s) (i : Nat) : Sb (s.wd i) := fun x hx => by have := h.sy i x hx; have := h.k2; omega
theorem Vi.cb {s : Ts} (h : Vi s) {e : List Int} (he : e ∈ s.cols) : Sb e := fun x hx => by have := (h.cw e he).2 x hx; have := h.k2; omega
theorem Vi.co_mem {s : Ts} {c : Nat} (hc : c < s.cols.length) : s.co c ∈ s.cols := by
  unfold Ts.co; rw [List.getD_eq_getElem?_getD, List.getElem?_eq_getElem hc]; exact List.getElem_mem hc
theorem Vi.rw_mem {s : Ts} {i : Nat} (hi : i < s.rows.length) : s.rw i ∈ s.rows := by
  unfold Ts.rw; rw [List.getD_eq_getElem?_getD, List.getElem?_eq_getElem hi]; exact List.getElem_mem hi
theorem Vi.rw_of {s : Ts} {p : Nat} (hp : p ∈ s.rows) : ∃ i, i < s.rows.length ∧ s.rw i = p := by
  obtain ⟨i, hi, e⟩ := List.getElem_of_mem hp
  exact ⟨i, hi, by unfold Ts.rw; rw [List.getD_eq_getElem?_getD, List.getElem?_eq_getElem hi]; exact e⟩
theorem Vi.wl1 {s : Ts} (h : Vi s) {i : Nat} (hi : i < s.ls.length) : (s.wd i).length ≤ 1024 := by have := h.wl i hi; have := h.rl; omega
theorem Vi.len2 {s : Ts} (h : Vi s) : s.ls.length ≤ 65537 := by
  have h1 := h.len
  have h2 : s.K * s.rows.length ≤ 64 * 1024 := Nat.mul_le_mul h.k2 h.rl
  omega
theorem mul_in {K i x n : Nat} (hi : i < n) (hx : x < K) : K * i + x < K * n := by
  have : K * (i + 1) ≤ K * n := Nat.mul_le_mul_left K hi
  rw [Nat.mul_add] at this; omega
theorem Vi.edge {s : Ts} (h : Vi s) {i x : Nat} (hi : i < s.rows.length) (hx : x < s.K) : 1 + s.K * i + x < s.ls.length := by
  have := mul_in hi hx
  rw [h.len]; omega
theorem Vi.rwlt {s : Ts} (h : Vi s) {i : Nat} (hi : i < s.rows.length) : s.rw i < s.ls.length := by
  have h1 := (h.rg i hi).1
  have h2 := mul_in (K := s.K) (i := i) (x := 0) hi h.k1
  rw [h.len]; omega
/-- A line has edges just if it is a row. -/
theorem Vi.ed_row {s : Ts} (h : Vi s) {p : Nat} (hp : 0 < (s.ln p).ed) : ∃ i, i < s.rows.length ∧ s.rw i = p ∧ (s.ln p).ed = 1 + s.K * i := by
  have : p ∈ s.rows := Classical.byContradiction fun c => by rw [h.no p c] at hp; omega
  obtain ⟨i, hi, e⟩ := Vi.rw_of this
  exact ⟨i, hi, e, by rw [← e]; exact (h.rg i hi).2⟩
theorem Vi.ed_lt {s : Ts} (h : Vi s) {p x : Nat} (hp : 0 < (s.ln p).ed) (hx : x < s.K) : (s.ln p).ed + x < s.ls.length := by
  obtain ⟨i, hi, _, e⟩ := h.ed_row hp
  rw [e]; exact h.edge hi hx
theorem Vi.ed_wd {s : Ts} (h : Vi s) {p x : Nat} (hp : 0 < (s.ln p).ed) (hx : x < s.K) : s.wd ((s.ln p).ed + x) = s.wd p ++ [(x : Int)] := by
  obtain ⟨i, hi, e1, e⟩ := h.ed_row hp
  rw [e, ← e1]; exact h.ed i x hi hx
/-- Where a word leads along the rows. -/
def fndT (s : Ts) : Nat → List Int → Option Nat
  | p, [] => some p
  | p, x :: w => if (s.ln p).ed = 0 then none else fndT s ((s.ln p).ed + x.toNat) w
theorem fnd_yes {s : Ts} (h : Vi s) : ∀ (w : List Int) (p q : Nat), p < s.ls.length → (∀ x ∈ w, 0 ≤ x ∧ x < (s.K : Int)) → fndT s p w = some q → q < s.ls.length ∧ s.wd q = s.wd p ++ w
  | [], p, q, hp, _, e => by cases e; exact ⟨hp, by simp⟩
  | x :: w, p, q, hp, hx, e => by
    have hx0 := hx x (by simp)
    by_cases c : (s.ln p).ed = 0
    · rw [fndT, if_pos c] at e; cases e
    · rw [fndT, if_neg c] at e
      have hxK : x.toNat < s.K := by omega
      obtain ⟨h1, h2⟩ := fnd_yes h w _ q (h.ed_lt (by omega) hxK) (fun y hy => hx y (by simp [hy])) e
      refine ⟨h1, ?_⟩
      rw [h2, h.ed_wd (by omega) hxK, List.append_assoc]
      congr 1
      rw [Int.toNat_of_nonneg hx0.1]; rfl
/-- Each line is come to by its word. -/
theorem fnd_line {s : Ts} (h : Vi s) : ∀ (p : Nat), p < s.ls.length → ∀ (w : List Int), fndT s 0 (s.wd p ++ w) = fndT s p w := by
  intro p
  induction p using Nat.strongRecOn with
  | _ p ih =>
    intro hp w
    rcases Nat.eq_zero_or_pos p with c | c
    · subst c; rw [h.r0]; rfl
    · have hK := h.k1
      have hq : p - 1 < s.K * s.rows.length := by rw [h.len] at hp; omega
      have hi : (p - 1) / s.K < s.rows.length := Nat.div_lt_of_lt_mul hq
      have hx : (p - 1) % s.K < s.K := Nat.mod_lt _ hK
      have ep : p = 1 + s.K * ((p - 1) / s.K) + (p - 1) % s.K := by have := Nat.div_add_mod (p - 1) s.K; omega
      have hrg := h.rg _ hi
      have hlt : s.rw ((p - 1) / s.K) < p := by omega
      have e1 := h.ed _ _ hi hx
      rw [← ep] at e1
      rw [e1, List.append_assoc, ih _ hlt (h.rwlt hi)]
      show fndT s _ (((p - 1) % s.K : Nat) :: w) = _
      rw [fndT, if_neg (by omega), hrg.2]
      congr 1
      omega
theorem fnd_no {s : Ts} (h : Vi s) {w : List Int} (hw : ∀ p, p < s.ls.length → s.wd p ≠ w) (hx : ∀ x ∈ w, 0 ≤ x ∧ x < (s.K : Int)) : fndT s 0 w = none := by
  cases e : fndT s 0 w with
  | none => rfl
  | some q =>
    obtain ⟨h1, h2⟩ := fnd_yes h w 0 q (by rw [h.len]; omega) hx e
    rw [h.r0, List.nil_append] at h2
    exact absurd h2 (hw q h1)

end Go.Proofs.Ytlcablkhomnieaa

/-
  The program's table: a line's edges; find; a cell.
-/
namespace Go.Proofs.Ytlcablkhomnieaa
open Go.RowKit

section
variable {B : Nat} {w : World} {p : Tl} {s : Ts}
/-- Is a cell known? -/
def Ts.isK (s : Ts) (i c : Nat) : Prop := (s.cel (s.wd i) (s.co c)).isSome = true
end

end Go.Proofs.Ytlcablkhomnieaa

/-
  The program's table: the first cell that is not known.
-/
namespace Go.Proofs.Ytlcablkhomnieaa
open Go.RowKit

section
variable {B : Nat} {w w' : World} {p : Tl} {s : Ts}
theorem ni_set (l : List Nat) (c n : Nat) : ni (l.set c n) = (ni l).set c (n : Int) := by unfold ni; rw [List.map_set]
theorem set_getD {l : List Nat} {c n : Nat} (hc : c < l.length) (i : Nat) : (l.set c n).getD i 0 = if i = c then n else l.getD i 0 := by
  rw [List.getD_eq_getElem?_getD, List.getD_eq_getElem?_getD, List.getElem?_set]
  by_cases e : c = i
  · subst e; simp [hc]
  · rw [if_neg e, if_neg (Ne.symm e)]
/-- Of each column so many lines are known, from the front of the order on. -/
def KnO (s : Ts) (kn : List Nat) : Prop := kn.length = s.cols.length ∧ ∀ c, c < s.cols.length → kn.getD c 0 ≤ s.ls.length ∧ ∀ i, i < kn.getD c 0 → s.isK (s.ord.getD i 0) c
/-- What is compared is known. -/
def CpO (s : Ts) : Prop := ∀ i, i < s.ls.length → (s.ln i).cp ≤ s.cols.length ∧ ∀ c, c < (s.ln i).cp → s.isK i c
theorem KnO.set {kn : List Nat} (h : KnO s kn) {c n : Nat} (hc : c < s.cols.length) (hn : n ≤ s.ls.length) (hk : ∀ i, i < n → s.isK (s.ord.getD i 0) c) : KnO s (kn.set c n) := by
  refine ⟨by rw [List.length_set]; exact h.1, fun d hd => ?_⟩
  rw [set_getD (by rw [h.1]; exact hc)]
  by_cases e : d = c
  · subst e; rw [if_pos rfl]; exact ⟨hn, hk⟩
  · rw [if_neg e]; exact h.2 d hd
theorem Vi.toKn (V : Vi s) {kn : List Nat} (h : KnO s kn) : Vi { s with kn := kn } := { V with kl := h.1 }
theorem Ts.cel_long {u e : List Int} (h : 4096 < u.length + e.length) : s.cel u e = some [] := by unfold Ts.cel; rw [if_pos h]
theorem Ts.isK_long {i c : Nat} (h : 4096 < (s.wd i).length + (s.co c).length) : s.isK i c := by unfold Ts.isK; rw [Ts.cel_long h]; rfl
theorem Vi.ord_le (V : Vi s) {i j : Nat} (h : i ≤ j) (hj : j < s.ls.length) : (s.wd (s.ord.getD i 0)).length ≤ (s.wd (s.ord.getD j 0)).length := by
  rcases Nat.eq_or_lt_of_le h with e | e
  · subst e; exact Nat.le_refl _
  · rcases V.os i j e hj with g | ⟨g, _⟩ <;> omega
theorem Lex.appE : ∀ {a b : List Int} (e : List Int), a.length = b.length → Lex a b → Lex (a ++ e) (b ++ e)
  | [], _, _, _, h => by simp [Lex] at h
  | _ :: _, [], _, h, _ => by simp at h
  | x :: a, y :: b, e, hl, h => by
    simp only [Lex, List.cons_append] at h ⊢
    rcases h with h | ⟨e1, h⟩
    · exact .inl h
    · exact .inr ⟨e1, Lex.appE e (by simpa using hl) h⟩
theorem Ahd.appE {a b : List Int} (e : List Int) (h : Ahd a b) : Ahd (a ++ e) (b ++ e) := by
  rcases h with h | ⟨h, g⟩
  · exact .inl (by simp only [List.length_append]; omega)
  · exact .inr ⟨by simp only [List.length_append]; omega, g.appE e h⟩
/-- Up to n all are known, the n-th is not. -/
theorem mi_some (V : Vi s) {c n : Nat} (hn : n < s.ls.length) (hk : ∀ i, i < n → s.isK (s.ord.getD i 0) c) (h0 : ¬ s.isK (s.ord.getD n 0) c) :
    (∃ i, i < s.ls.length ∧ s.wd (s.ord.getD n 0) ++ s.co c = s.wd i ++ s.co c ∧ ¬ s.isK i c) ∧ ∀ i, i < s.ls.length → ¬ s.isK i c → s.wd i ++ s.co c = s.wd (s.ord.getD n 0) ++ s.co c ∨ Ahd (s.wd (s.ord.getD n 0) ++ s.co c) (s.wd i ++ s.co c) := by
  refine ⟨⟨_, V.om n hn, rfl, h0⟩, fun i hi hno => ?_⟩
  obtain ⟨q, hq, rfl⟩ := V.oa i hi
  rcases Nat.lt_trichotomy q n with h | h | h
  · exact absurd (hk q h) hno
  · subst h; exact .inl rfl
  · exact .inr ((V.os n q h hq).appE _)
theorem mi_none (V : Vi s) {c n most : Nat} (hk : ∀ i, i < n → s.isK (s.ord.getD i 0) c) (h0 : n < s.ls.length → most < (s.wd (s.ord.getD n 0)).length + (s.co c).length) : ∀ i, i < s.ls.length → (s.wd i).length + (s.co c).length ≤ most → s.isK i c := by
  intro i hi hle
  obtain ⟨q, hq, rfl⟩ := V.oa i hi
  rcases Nat.lt_or_ge q n with h | h
  · exact hk q h
  · have h1 := h0 (by omega)
    have h2 := V.ord_le h hq
    omega

end

end Go.Proofs.Ytlcablkhomnieaa

/-
  The program's table: the first word of all columns whose cell is not known.
-/
namespace Go.Proofs.Ytlcablkhomnieaa
open Go.RowKit

section
variable {B : Nat} {w w' : World} {p : Tl} {s : Ts}
/-- The first missing word of the first columns. -/
def MinC (s : Ts) (C : Nat) (r : Option (List Int)) : Prop :=
  (r = none → ∀ i c, i < s.ls.length → c < C → s.isK i c) ∧
  ∀ v, r = some v → v.length ≤ 4096 ∧ (∃ i c, i < s.ls.length ∧ c < C ∧ v = s.wd i ++ s.co c ∧ ¬ s.isK i c) ∧ ∀ i c, i < s.ls.length → c < C → ¬ s.isK i c → s.wd i ++ s.co c = v ∨ Ahd v (s.wd i ++ s.co c)
def mxO (r : Option (List Int)) : Nat := match r with | none => 4096 | some v => v.length
theorem minC_zero (s : Ts) : MinC s 0 none := ⟨fun _ _ c _ h => by omega, fun v h => by cases h⟩
theorem minC_none {C : Nat} {r : Option (List Int)} (h : MinC s C r) (g : ∀ i, i < s.ls.length → (s.wd i).length + (s.co C).length ≤ mxO r → s.isK i C) : MinC s (C + 1) r := by
  refine ⟨fun e i c hi hc => ?_, fun v e => ?_⟩
  · by_cases hC : c = C
    · subst hC e
      by_cases hl : (s.wd i).length + (s.co c).length ≤ 4096
      · exact g i hi hl
      · exact Ts.isK_long (by omega)
    · exact h.1 e i c hi (by omega)
  · obtain ⟨h1, ⟨i, c, h2, h3, h4⟩, h5⟩ := h.2 v e
    refine ⟨h1, ⟨i, c, h2, by omega, h4⟩, fun i c hi hc hno => ?_⟩
    by_cases hC : c = C
    · subst hC e
      right; left
      rw [List.length_append]
      rcases Nat.lt_or_ge v.length ((s.wd i).length + (s.co c).length) with q | q
      · exact q
      · exact absurd (g i hi q) hno
    · exact h5 i c hi (by omega) hno
theorem minC_take {C : Nat} {r : Option (List Int)} {v : List Int} (h : MinC s C r) (hl : v.length ≤ 4096) (g1 : ∃ i, i < s.ls.length ∧ v = s.wd i ++ s.co C ∧ ¬ s.isK i C) (g2 : ∀ i, i < s.ls.length → ¬ s.isK i C → s.wd i ++ s.co C = v ∨ Ahd v (s.wd i ++ s.co C))
    (hr : ∀ u, r = some u → Ahd v u) : MinC s (C + 1) (some v) := by
  refine ⟨(fun e => by cases e), fun u e => ?_⟩
  cases e
  obtain ⟨i0, a1, a2, a3⟩ := g1
  refine ⟨hl, ⟨i0, C, a1, by omega, a2, a3⟩, fun i c hi hc hno => ?_⟩
  by_cases hC : c = C
  · subst hC; exact g2 i hi hno
  · cases r with
    | none => exact absurd (h.1 rfl i c hi (by omega)) hno
    | some u =>
      have hu := hr u rfl
      rcases (h.2 u rfl).2.2 i c hi (by omega) hno with q | q
      · rw [q]; exact .inr hu
      · exact .inr (hu.tra q)
theorem minC_stay {C : Nat} {u v : List Int} (h : MinC s C (some u)) (g2 : ∀ i, i < s.ls.length → ¬ s.isK i C → s.wd i ++ s.co C = v ∨ Ahd v (s.wd i ++ s.co C)) (hr : ¬ Ahd v u) : MinC s (C + 1) (some u) := by
  refine ⟨(fun e => by cases e), fun u' e => ?_⟩
  cases e
  obtain ⟨h1, ⟨i, c, h2, h3, h4⟩, h5⟩ := h.2 u rfl
  refine ⟨h1, ⟨i, c, h2, by omega, h4⟩, fun i c hi hc hno => ?_⟩
  by_cases hC : c = C
  · subst hC
    have hv : u = v ∨ Ahd u v := by
      rcases Ahd.tot u v with q | q | q
      · exact .inr q
      · exact .inl q
      · exact absurd q hr
    rcases g2 i hi hno with q | q
    · rw [q]; rcases hv with e | e
      · exact .inl e.symm
      · exact .inr e
    · rcases hv with e | e
      · subst e; exact .inr q
      · exact .inr (e.tra q)
  · exact h5 i c hi (by omega) hno
theorem minC_sb (V : Vi s) {C : Nat} (hC : C ≤ s.cols.length) {v : List Int} (h : MinC s C (some v)) : Sb v := by
  obtain ⟨_, ⟨i, c, h2, h3, h4, _⟩, _⟩ := h.2 v rfl
  rw [h4]; exact (V.sb i).app (V.cb (Vi.co_mem (by omega)))
end

end Go.Proofs.Ytlcablkhomnieaa

/-
  The program's table: classes of lines.
-/
namespace Go.Proofs.Ytlcablkhomnieaa
open Go.RowKit

/-- What the numbers of classes stand for. -/
structure ClO (cls : List (Nat × List Int)) (G : Nat → List (List Int)) : Prop where
  g0 : G 0 = []
  gi : ∀ a b, a ≤ cls.length → b ≤ cls.length → G a = G b → a = b
  gs : ∀ d, d < cls.length → (cls.getD d (0, [])).1 ≤ cls.length ∧ G (d + 1) = G (cls.getD d (0, [])).1 ++ [(cls.getD d (0, [])).2]
theorem snoc_inj {α : Type} {a b : List α} {x y : α} (h : a ++ [x] = b ++ [y]) : a = b ∧ x = y := by
  have := List.append_inj' h rfl
  exact ⟨this.1, by simpa using this.2⟩
theorem ClO.zero : ClO [] (fun _ => []) := ⟨rfl, fun a b ha hb _ => by simp at ha hb; omega, fun d hd => by simp at hd⟩
theorem ClO.at {cls : List (Nat × List Int)} {G : Nat → List (List Int)} (h : ClO cls G) {x : Nat × List Int} (hx : x ∈ cls) : cls.idxOf x + 1 ≤ cls.length ∧ G (cls.idxOf x + 1) = G x.1 ++ [x.2] := by
  have hl := List.idxOf_lt_length_of_mem hx
  have := (h.gs _ hl).2
  rw [List.getD_eq_getElem?_getD, List.getElem?_eq_getElem hl] at this
  rw [show (some cls[cls.idxOf x]).getD (0, []) = x from List.getElem_idxOf hl] at this
  exact ⟨hl, this⟩
theorem ClO.add {cls : List (Nat × List Int)} {G : Nat → List (List Int)} (h : ClO cls G) {x : Nat × List Int} (hx : x ∉ cls) (hc : x.1 ≤ cls.length) :
    ClO (cls ++ [x]) (fun d => if d = cls.length + 1 then G x.1 ++ [x.2] else G d) := by
  have key : ∀ d, d ≤ cls.length → G d ≠ G x.1 ++ [x.2] := fun d hd e => by
    rcases Nat.eq_zero_or_pos d with c | c
    · subst c; rw [h.g0] at e; simp at e
    · obtain ⟨d, rfl⟩ : ∃ k, d = k + 1 := ⟨d - 1, by omega⟩
      obtain ⟨a, b⟩ := h.gs d hd
      rw [b] at e
      obtain ⟨e1, e2⟩ := snoc_inj e
      have e3 := h.gi _ _ a hc e1
      refine hx ?_
      have : cls.getD d (0, []) = x := Prod.ext e3 e2
      rw [← this, List.getD_eq_getElem?_getD, List.getElem?_eq_getElem hd]
      exact List.getElem_mem hd
  refine ⟨by rw [if_neg (by omega)]; exact h.g0, fun a b ha hb e => ?_, fun d hd => ?_⟩
  · simp only [List.length_append, List.length_singleton] at ha hb
    by_cases ca : a = cls.length + 1 <;> by_cases cb : b = cls.length + 1
    · omega
    · rw [if_pos ca, if_neg cb] at e; exact absurd e.symm (key b (by omega))
    · rw [if_neg ca, if_pos cb] at e; exact absurd e (key a (by omega))
    · rw [if_neg ca, if_neg cb] at e; exact h.gi a b (by omega) (by omega) e
  · simp only [List.length_append, List.length_singleton] at hd ⊢
    by_cases c : d = cls.length
    · subst c
      have e : (cls ++ [x]).getD cls.length (0, []) = x := by rw [List.getD_eq_getElem?_getD, List.getElem?_append_right (Nat.le_refl _)]; simp
      rw [e, if_pos rfl, if_neg (by omega)]
      exact ⟨by omega, rfl⟩
    · have e : (cls ++ [x]).getD d (0, []) = cls.getD d (0, []) := by rw [List.getD_eq_getElem?_getD, List.getElem?_append_left (by omega), List.getD_eq_getElem?_getD]
      obtain ⟨a, b⟩ := h.gs d (by omega)
      rw [e, if_neg (by omega), if_neg (by omega)]
      exact ⟨by omega, b⟩
section
variable {B : Nat} {w w' : World} {p : Tl} {s : Ts}
theorem clsF_add {cls : List (Nat × List Int)} {x : Nat × List Int} (hx : x ∉ cls) : (fun y => if y = x then some (Value.int .i64 ((cls.length : Int) + 1)) else clsF cls y) = clsF (cls ++ [x]) := by
  funext y
  unfold clsF
  by_cases e : y = x
  · subst e
    rw [if_pos rfl, if_pos (by simp), List.idxOf_append, if_neg hx]
    simp
  · rw [if_neg e]
    by_cases m : y ∈ cls
    · rw [if_pos m, if_pos (by simp [m]), List.idxOf_append, if_pos m]
    · rw [if_neg m, if_neg (by simp [m, e])]
end

end Go.Proofs.Ytlcablkhomnieaa

/-
  The program's table: what is seen of it stays; classes, compared lines.
-/
namespace Go.Proofs.Ytlcablkhomnieaa
open Go.RowKit

/-- What is seen is the same. -/
structure Sv (s s' : Ts) : Prop where
  kind : s'.kind = s.kind
  K : s'.K = s.K
  o : s'.o = s.o
  f : s'.f = s.f
  nf : s'.nf = s.nf
  rows : s'.rows = s.rows
  ord : s'.ord = s.ord
  cols : s'.cols = s.cols
  len : s'.ls.length = s.ls.length
  wd : ∀ i, s'.wd i = s.wd i
  ed : ∀ i, (s'.ln i).ed = (s.ln i).ed
theorem Sv.refl (s : Ts) : Sv s s := ⟨rfl, rfl, rfl, rfl, rfl, rfl, rfl, rfl, rfl, fun _ => rfl, fun _ => rfl⟩
theorem Sv.trans {a b c : Ts} (h : Sv a b) (g : Sv b c) : Sv a c :=
  ⟨g.kind.trans h.kind, g.K.trans h.K, g.o.trans h.o, g.f.trans h.f, g.nf.trans h.nf, g.rows.trans h.rows, g.ord.trans h.ord, g.cols.trans h.cols, g.len.trans h.len, fun i => (g.wd i).trans (h.wd i), fun i => (g.ed i).trans (h.ed i)⟩
section
variable {s s' : Ts}
theorem Sv.rw (h : Sv s s') (i : Nat) : s'.rw i = s.rw i := by unfold Ts.rw; rw [h.rows]
theorem Sv.co (h : Sv s s') (i : Nat) : s'.co i = s.co i := by unfold Ts.co; rw [h.cols]
theorem Sv.cel (h : Sv s s') (u e : List Int) : s'.cel u e = s.cel u e := by unfold Ts.cel; rw [h.f, h.kind]
theorem Sv.isK (h : Sv s s') (i c : Nat) : s'.isK i c ↔ s.isK i c := by unfold Ts.isK; rw [h.cel, h.wd, h.co]
theorem Vi.to (V : Vi s) (h : Sv s s') (hk : s'.kn.length = s'.cols.length) : Vi s' where
  k1 := by simp only [h.K]; exact V.k1
  k2 := by simp only [h.K]; exact V.k2
  kd := by simp only [h.kind]; exact V.kd
  len := by simp only [h.len, h.K, h.rows]; exact V.len
  rl := by simp only [h.rows]; exact V.rl
  r0 := by simp only [h.wd]; exact V.r0
  rg := by simp only [h.rows, h.rw, h.K, h.ed]; exact V.rg
  ed := by simp only [h.rows, h.K, h.wd, h.rw]; exact V.ed
  no := by simp only [h.rows, h.ed]; exact V.no
  nd := by simp only [h.len, h.wd]; exact V.nd
  sy := by simp only [h.wd, h.K]; exact V.sy
  wl := by simp only [h.len, h.wd, h.rows]; exact V.wl
  ol := by simp only [h.ord, h.len]; exact V.ol
  om := by simp only [h.len, h.ord]; exact V.om
  os := by simp only [h.len, h.wd, h.ord]; exact V.os
  oa := by simp only [h.len, h.ord]; exact V.oa
  cl := by simp only [h.cols]; exact V.cl
  cw := by simp only [h.cols, h.K]; exact V.cw
  cn := by simp only [h.cols]; exact V.cn
  kl := hk
  fw := by rw [h.f, h.K, h.kind]; exact V.fw
theorem KnO.to (h : Sv s s') {kn : List Nat} (k : KnO s kn) : KnO s' kn := by
  refine ⟨by rw [h.cols]; exact k.1, fun c hc => ?_⟩
  rw [h.cols] at hc
  obtain ⟨a, b⟩ := k.2 c hc
  exact ⟨by rw [h.len]; exact a, fun i hi => by rw [h.isK, h.ord]; exact b i hi⟩
theorem MinC.to (h : Sv s s') {C : Nat} {r : Option (List Int)} (k : MinC s C r) : MinC s' C r := by
  unfold MinC
  simp only [h.len, h.isK, h.wd, h.co]
  exact k
end
/-- What a cell says are bytes. -/
theorem Vi.celS {s : Ts} (V : Vi s) {u e x : List Int} (h : s.cel u e = some x) : okS x := by
  unfold Ts.cel at h
  split at h
  · cases h; exact ⟨Sb.nil, by simp⟩
  · cases hf : s.f (u ++ e) with
    | none => rw [hf] at h; cases h
    | some o =>
      rw [hf] at h
      obtain ⟨_, _, h1, h2, _, _⟩ := V.fw _ _ hf
      have h' : (if s.kind = 2 then o.drop u.length else o) = x := Option.some.inj h
      subst h'
      split
      · exact ⟨h1.drop _, by rw [List.length_drop]; omega⟩
      · exact ⟨h1, by omega⟩
/-- The cells of a line, by the first columns. -/
def Ts.cst (s : Ts) (i n : Nat) : List (List Int) := (List.range n).map fun c => (s.cel (s.wd i) (s.co c)).getD []
theorem Ts.cst_succ (s : Ts) (i n : Nat) : s.cst i (n + 1) = s.cst i n ++ [(s.cel (s.wd i) (s.co n)).getD []] := by unfold Ts.cst; rw [List.range_succ, List.map_append]; rfl
theorem Sv.cst {s s' : Ts} (h : Sv s s') (i n : Nat) : s'.cst i n = s.cst i n := by unfold Ts.cst; simp only [h.cel, h.wd, h.co]
/-- Each line's class stands for its cells. -/
def LnO (s : Ts) (G : Nat → List (List Int)) : Prop := ∀ i, i < s.ls.length → (s.ln i).cl ≤ s.cls.length ∧ G (s.ln i).cl = s.cst i (s.ln i).cp
/-- What holds of what is not seen. -/
structure Hd (s : Ts) : Prop where
  kn : KnO s s.kn
  cp : CpO s
  cl : ∃ G, ClO s.cls G ∧ LnO s G
  sm : s.cls.length ≤ (s.ls.map Ln.cp).sum
/-- All lines are compared by all columns. -/
def Ful (s : Ts) : Prop := ∀ i, i < s.ls.length → (s.ln i).cp = s.cols.length
theorem Hd.alike {s : Ts} (h : Hd s) (F : Ful s) {i j : Nat} (hi : i < s.ls.length) (hj : j < s.ls.length) : (s.ln i).cl = (s.ln j).cl ↔ s.cst i s.cols.length = s.cst j s.cols.length := by
  obtain ⟨G, g1, g2⟩ := h.cl
  obtain ⟨a1, a2⟩ := g2 i hi
  obtain ⟨b1, b2⟩ := g2 j hj
  rw [F i hi] at a2
  rw [F j hj] at b2
  constructor
  · intro e; rw [← a2, ← b2, e]
  · intro e; exact g1.gi _ _ a1 b1 (by rw [a2, b2, e])
theorem sum_set : ∀ (l : List Ln) (i : Nat) (x : Ln), i < l.length → ((l.set i x).map Ln.cp).sum + (l.getD i ln0).cp = (l.map Ln.cp).sum + x.cp
  | [], i, x, h => by simp at h
  | y :: l, 0, x, _ => by simp; omega
  | y :: l, i + 1, x, h => by
    have := sum_set l i x (by simpa using h)
    simp only [List.set_cons_succ, List.map_cons, List.sum_cons, List.getD_cons_succ]
    omega
theorem sum_le {N : Nat} : ∀ (l : List Ln), (∀ x ∈ l, x.cp ≤ N) → (l.map Ln.cp).sum ≤ l.length * N
  | [], _ => by simp
  | x :: l, h => by
    have h1 := h x (by simp)
    have h2 := sum_le l fun y hy => h y (by simp [hy])
    simp only [List.map_cons, List.sum_cons, List.length_cons, Nat.add_mul]; omega
theorem Hd.many {s : Ts} (h : Hd s) (V : Vi s) : s.cls.length ≤ 100000000 := by
  have h1 : (s.ls.map Ln.cp).sum ≤ s.ls.length * 1024 := sum_le _ fun x hx => by
    obtain ⟨i, hi, rfl⟩ := List.getElem_of_mem hx
    have := (h.cp i hi).1
    rw [show s.ln i = s.ls[i] by unfold Ts.ln; rw [List.getD_eq_getElem?_getD, List.getElem?_eq_getElem hi]; rfl] at this
    have := V.cl
    omega
  have h2 := V.len2
  have h3 := h.sm
  have h4 : s.ls.length * 1024 ≤ 65537 * 1024 := Nat.mul_le_mul_right _ h2
  omega

end Go.Proofs.Ytlcablkhomnieaa

/-
  The program's table: compareAll.
-/
namespace Go.Proofs.Ytlcablkhomnieaa
open Go.RowKit

section
variable {B : Nat} {w w' : World} {p : Tl} {s : Ts}
theorem ln_set {L : List Ln} {i : Nat} {x : Ln} (hi : i < L.length) (j : Nat) : (L.set i x).getD j ln0 = if j = i then x else L.getD j ln0 := by
  rw [List.getD_eq_getElem?_getD, List.getD_eq_getElem?_getD, List.getElem?_set]
  by_cases e : i = j
  · subst e; simp [hi]
  · rw [if_neg e, if_neg (Ne.symm e)]
/-- A line's class and how far it is compared are new. -/
def Ts.stp (s : Ts) (i cp cl : Nat) (cls : List (Nat × List Int)) : Ts := { s with cls := cls, ls := s.ls.set i { s.ln i with cp := cp, cl := cl } }
theorem Ts.stp_ln {s : Ts} {i cp cl : Nat} {cls : List (Nat × List Int)} (hi : i < s.ls.length) (j : Nat) : (s.stp i cp cl cls).ln j = if j = i then { s.ln i with cp := cp, cl := cl } else s.ln j := ln_set hi j
theorem Ts.stp_wd {s : Ts} {i cp cl : Nat} {cls : List (Nat × List Int)} (hi : i < s.ls.length) (j : Nat) : (s.stp i cp cl cls).wd j = s.wd j := by
  show ((s.stp i cp cl cls).ln j).wd = _
  rw [Ts.stp_ln hi]
  by_cases e : j = i
  · subst e; rw [if_pos rfl]; rfl
  · rw [if_neg e]; rfl
theorem Ts.stp_ed {s : Ts} {i cp cl : Nat} {cls : List (Nat × List Int)} (hi : i < s.ls.length) (j : Nat) : ((s.stp i cp cl cls).ln j).ed = (s.ln j).ed := by
  rw [Ts.stp_ln hi]
  by_cases e : j = i
  · subst e; rw [if_pos rfl]
  · rw [if_neg e]
/-- The number in a cell. -/
def numAt (w : World) (g o : Nat) : Nat := match w.cell? ⟨g, o, none⟩ with | some (.int _ x) => x.toNat | _ => 0
/-- On the way: what is seen is the same, lines' classes stand for their cells. -/
structure CaI (s s1 : Ts) : Prop where
  sv : Sv s s1
  kn : s1.kn = s.kn
  cl : ∃ G, ClO s1.cls G ∧ LnO s1 G
  cp : ∀ i, i < s.ls.length → (s1.ln i).cp ≤ s.cols.length
  sm : s1.cls.length ≤ (s1.ls.map Ln.cp).sum
theorem CaI.many {s s1 : Ts} (h : CaI s s1) (V : Vi s) : s1.cls.length ≤ 100000000 := by
  have h1 : (s1.ls.map Ln.cp).sum ≤ s1.ls.length * 1024 := sum_le _ fun x hx => by
    obtain ⟨i, hi, rfl⟩ := List.getElem_of_mem hx
    have := h.cp i (by rw [← h.sv.len]; exact hi)
    rw [show s1.ln i = s1.ls[i] by unfold Ts.ln; rw [List.getD_eq_getElem?_getD, List.getElem?_eq_getElem hi]; rfl] at this
    have := V.cl
    omega
  have h2 := V.len2
  have h3 := h.sm
  rw [h.sv.len] at h1
  have h4 : s.ls.length * 1024 ≤ 65537 * 1024 := Nat.mul_le_mul_right _ h2
  omega
/-- One more column of one line. -/
theorem CaI.step {s s1 : Ts} (h : CaI s s1) {i n : Nat} (hi : i < s.ls.length) (hn : (s1.ln i).cp = n) (hc : n < s.cols.length) {cls : List (Nat × List Int)}
    (hx : ((s1.ln i).cl, (s.cel (s.wd i) (s.co n)).getD []) ∈ cls) (hk : cls = s1.cls ∨ ((s1.ln i).cl, (s.cel (s.wd i) (s.co n)).getD []) ∉ s1.cls ∧ cls = s1.cls ++ [((s1.ln i).cl, (s.cel (s.wd i) (s.co n)).getD [])]) :
    CaI s (s1.stp i (n + 1) (cls.idxOf ((s1.ln i).cl, (s.cel (s.wd i) (s.co n)).getD []) + 1) cls) := by
  have hi1 : i < s1.ls.length := by rw [h.sv.len]; exact hi
  obtain ⟨G, g1, g2⟩ := h.cl
  obtain ⟨c1, c2⟩ := g2 i hi1
  generalize hd : cls.idxOf ((s1.ln i).cl, (s.cel (s.wd i) (s.co n)).getD []) + 1 = d
  have hsv : Sv s (s1.stp i (n + 1) d cls) :=
    ⟨h.sv.kind, h.sv.K, h.sv.o, h.sv.f, h.sv.nf, h.sv.rows, h.sv.ord, h.sv.cols, by show (s1.ls.set i _).length = _; rw [List.length_set]; exact h.sv.len, fun j => by rw [Ts.stp_wd hi1]; exact h.sv.wd j, fun j => by rw [Ts.stp_ed hi1]; exact h.sv.ed j⟩
  have hcst : ∀ j m, s1.cst j m = s.cst j m := fun j m => h.sv.cst j m
  have key : ∃ G', ClO cls G' ∧ (∀ d, d ≤ s1.cls.length → G' d = G d) ∧ s1.cls.length ≤ cls.length := by
    rcases hk with hk | ⟨hno, hk⟩
    · subst hk; exact ⟨G, g1, fun _ _ => rfl, Nat.le_refl _⟩
    · subst hk; exact ⟨_, g1.add hno c1, fun d hd => by rw [if_neg (by omega)], by simp⟩
  obtain ⟨G', k1, k2, k3⟩ := key
  obtain ⟨a1, a2⟩ := k1.at hx
  rw [hd] at a1 a2
  refine ⟨hsv, h.kn, ⟨G', k1, fun j hj => ?_⟩, fun j hj => ?_, ?_⟩
  · rw [hsv.len] at hj
    rw [Ts.stp_ln hi1]
    by_cases e : j = i
    · subst e
      rw [if_pos rfl]
      refine ⟨a1, ?_⟩
      show G' d = _
      rw [a2, k2 _ c1, c2, hn, hsv.cst, hcst, Ts.cst_succ]
    · rw [if_neg e]
      obtain ⟨b1, b2⟩ := g2 j (by rw [h.sv.len]; exact hj)
      exact ⟨Nat.le_trans b1 k3, by rw [k2 _ b1, b2, hsv.cst, hcst]⟩
  · rw [Ts.stp_ln hi1]
    by_cases e : j = i
    · subst e; rw [if_pos rfl]; exact hc
    · rw [if_neg e]; exact h.cp j hj
  · have q := sum_set s1.ls i { s1.ln i with cp := n + 1, cl := d } hi1
    have e1 : (s1.ls.getD i ln0).cp = n := hn
    rw [e1] at q
    have e2 : ({ s1.ln i with cp := n + 1, cl := d } : Ln).cp = n + 1 := rfl
    rw [e2] at q
    have hsm := h.sm
    have e3 : ((s1.stp i (n + 1) d cls).ls.map Ln.cp).sum = ((s1.ls.set i { s1.ln i with cp := n + 1, cl := d }).map Ln.cp).sum := rfl
    have e4 : (s1.stp i (n + 1) d cls).cls = cls := rfl
    rw [e3, e4]
    rcases hk with hk | ⟨-, hk⟩
    · rw [hk]; omega
    · rw [hk, List.length_append, List.length_singleton]; omega

end

end Go.Proofs.Ytlcablkhomnieaa
