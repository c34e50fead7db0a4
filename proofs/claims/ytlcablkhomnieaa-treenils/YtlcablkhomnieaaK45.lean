/-
  Some texts of this seat, one behind the other.
-/
import Derived.Test.YtlcablkhomnieaaGSet
import Derived.Test.YtlcablkhomnieaaK3
import Derived.Test.YtlcablkhomnieaaK32
import Derived.Test.YtlcablkhomnieaaK35
import Derived.Test.YtlcablkhomnieaaK44
/-
  The program's tree in memory: its object, the nodes, their maps, the words.
-/
namespace Go.Proofs.Ytlcablkhomnieaa
set_option linter.unusedVariables false
open Go.RowKit

/-- Where it lies. -/
structure Tp where
  b : Nat
  lv : Option Addr
  lc : Nat
  ib : Nat → Nat
  mb : Nat → Nat
  sz : Nat → Nat
  wa : Nat → Option Addr
  wc : Nat → Nat
  fb : Nat → Nat
  fa : Nat → Option Addr
  fc : Nat → Nat
  sa : Option Addr
  sc : Nat
def Tp.upV (p : Tp) (u : Option Nat) : Value := .pointer (u.map fun i => ⟨p.ib i, 0, none⟩)
def Tp.ptV (p : Tp) : Nd → Value
  | .inl i => .pointer (some ⟨p.ib i, 0, none⟩)
  | .inr j => .pointer (some ⟨p.fb j, 0, none⟩)
def Tp.ndV (p : Tp) : Nd → Value
  | .inl i => .iface 86 (.pointer (some ⟨p.ib i, 0, none⟩))
  | .inr j => .iface 84 (.pointer (some ⟨p.fb j, 0, none⟩))
def Tp.atV (p : Tp) : Option Nd → Value
  | none => .nilIface
  | some n => p.ndV n
def spV (p : Tp) (u : Option Nat) (an : List Int) (d : Nat) : Value := .agg #[p.upV u, .string (sp an), .int .i64 (d : Int)]
def trC (p : Tp) (s : Tr) : List Value := [.int .i64 s.kind, .int .i64 s.k, .int .i64 s.o, p.atV s.root, .slice p.lv s.nl p.lc, .int .i64 (s.dep : Int), .slice p.sa s.sif.length p.sc, p.atV s.pos]
def inrC (p : Tp) (x : Inr) (i : Nat) : List Value := [p.upV x.up, .string (sp x.an), .int .i64 (x.pa.length : Int), .slice (p.wa i) x.wd.length (p.wc i), .map (some (p.mb i))]
def lfC (p : Tp) (x : Lfr) (j : Nat) : List Value := [p.upV x.up, .string (sp x.an), .int .i64 (x.pa.length : Int), .int .i64 (j : Int), .slice (p.fa j) x.ac.length (p.fc j)]
def ptE (b : Nat) : List Value := [.pointer (some ⟨b, 0, none⟩)]
theorem ptE_len (b : Nat) : (ptE b).length = 1 := rfl
theorem ePt : EltG 84 81 (.pointer none) 1 8 ptE :=
  ⟨Try.underlying81, by kernel_rfl, rfl, by decide, fun _ => rfl, fun x u hu => by
    simp only [ptE, List.mem_cons, List.not_mem_nil, or_false] at hu
    rcases hu with rfl; rfl⟩
theorem keysT : Keys 87 (fun l : List Int => .string (sp l)) okS where
  law := Go.Maps.string_keyed Try.underlying87
  of x hx := ⟨_, Go.WideMaps.keyOf_string_mk Try.underlying87 (by rw [sp_size]; have := hx.2; unfold maxLen; omega)⟩
  inj x y hx hy e := by injection e with e; exact sp_inj hx.1 hy.1 e
/-- The tree in memory. -/
structure TM (B : Nat) (w : World) (p : Tp) (s : Tr) : Prop where
  o : Bk w p.b (trC p s) 83
  nd : ∀ i, i < s.nn → Bk w (p.ib i) (inrC p (s.nd i) i) 98
  mp : ∀ i, i < s.nn → FMap 87 (fun l : List Int => .string (sp l)) okS w (p.mb i) (p.sz i) (fun x => (s.ch i x).map p.ndV)
  wd : ∀ i, i < s.nn → OwnL .i64 3 w B (.slice (p.wa i) (s.nd i).wd.length (p.wc i)) (s.nd i).wd
  lf : ∀ j, j < s.nl → Bk w (p.fb j) (lfC p (s.lf j) j) 111
  ac : ∀ j, j < s.nl → OwnL .i64 3 w B (.slice (p.fa j) (s.lf j).ac.length (p.fc j)) (s.lf j).ac
  lv : OwnG 84 1 ptE w B (.slice p.lv s.nl p.lc) ((List.range s.nl).map p.fb)
  sf : OwnL .i64 3 w B (.slice p.sa s.sif.length p.sc) s.sif
  mi : ∀ i j, i < s.nn → j < s.nn → p.mb i = p.mb j → i = j
  b0 : B ≤ p.b
  b1 : ∀ i, i < s.nn → B ≤ p.ib i ∧ B ≤ p.mb i
  b2 : ∀ j, j < s.nl → B ≤ p.fb j
/-- The block that a slice lies in. -/
def obT (a : Option Addr) : Option Nat := a.map (·.block)
/-- The blocks that are written. -/
def Tp.has (p : Tp) (s : Tr) (k : Nat) : Prop := k = p.b ∨ obT p.lv = some k ∨ (∃ i, i < s.nn ∧ k = p.mb i) ∨ ∃ j, j < s.nl ∧ k = p.fb j
/-- All blocks. -/
def Tp.all (p : Tp) (s : Tr) (k : Nat) : Prop := k = p.b ∨ obT p.lv = some k ∨ obT p.sa = some k ∨ (∃ i, i < s.nn ∧ (k = p.mb i ∨ k = p.ib i ∨ obT (p.wa i) = some k)) ∨ ∃ j, j < s.nl ∧ (k = p.fb j ∨ obT (p.fa j) = some k)
section
variable {B : Nat} {w w' : World} {p : Tp} {s : Tr}
theorem obS {a : Option Addr} {n c : Nat} : (Value.slice a n c).ownBlock = obT a := by cases a <;> rfl
theorem TM.lt (h : TM B w p s) {k : Nat} (e : p.all s k) : B ≤ k ∧ k < w.heap.size := by
  rcases e with rfl | e | e | ⟨i, hi, rfl | rfl | e⟩ | ⟨j, hj, rfl | e⟩
  · exact ⟨h.b0, h.o.lt⟩
  · exact h.lv.lt (by rw [obS]; exact e)
  · exact h.sf.lt (by rw [obS]; exact e)
  · exact ⟨(h.b1 i hi).2, (h.mp i hi).lt⟩
  · exact ⟨(h.b1 i hi).1, (h.nd i hi).lt⟩
  · exact (h.wd i hi).lt (by rw [obS]; exact e)
  · exact ⟨h.b2 j hj, (h.lf j hj).lt⟩
  · exact (h.ac j hj).lt (by rw [obS]; exact e)
theorem Tp.has_all {k : Nat} (e : p.has s k) : p.all s k := by
  rcases e with e | e | ⟨i, hi, e⟩ | ⟨j, hj, e⟩
  · exact .inl e
  · exact .inr (.inl e)
  · exact .inr (.inr (.inr (.inl ⟨i, hi, .inl e⟩)))
  · exact .inr (.inr (.inr (.inr ⟨j, hj, .inl e⟩)))
theorem TM.hlt (h : TM B w p s) {k : Nat} (e : p.has s k) : B ≤ k ∧ k < w.heap.size := h.lt (Tp.has_all e)
theorem TM.keep (h : TM B w p s) (k : ∀ b, p.all s b → w'.heap[b]? = w.heap[b]?) : TM B w' p s where
  o := (k _ (.inl rfl)).trans h.o
  nd i hi := (k _ (.inr (.inr (.inr (.inl ⟨i, hi, .inr (.inl rfl)⟩))))).trans (h.nd i hi)
  mp i hi := (h.mp i hi).keep (k _ (.inr (.inr (.inr (.inl ⟨i, hi, .inl rfl⟩)))))
  wd i hi := (h.wd i hi).keep fun b e => k b (.inr (.inr (.inr (.inl ⟨i, hi, .inr (.inr (by rw [obS] at e; exact e))⟩))))
  lf j hj := (k _ (.inr (.inr (.inr (.inr ⟨j, hj, .inl rfl⟩))))).trans (h.lf j hj)
  ac j hj := (h.ac j hj).keep fun b e => k b (.inr (.inr (.inr (.inr ⟨j, hj, .inr (by rw [obS] at e; exact e)⟩))))
  lv := h.lv.keep fun b e => k b (.inr (.inl (by rw [obS] at e; exact e)))
  sf := h.sf.keep fun b e => k b (.inr (.inr (.inl (by rw [obS] at e; exact e))))
  mi := h.mi
  b0 := h.b0
  b1 := h.b1
  b2 := h.b2
theorem TM.below (h : TM B w p s) (hb : Below w.heap.size w w') : TM B w' p s := h.keep fun b e => hb.block b (h.lt e).2
theorem TM.c0 (h : TM B w p s) : w.cell? ⟨p.b, 0, none⟩ = some (.int .i64 s.kind) := h.o.cell 0
theorem TM.c1 (h : TM B w p s) : w.cell? ⟨p.b, 1, none⟩ = some (.int .i64 s.k) := h.o.cell 1
theorem TM.c2 (h : TM B w p s) : w.cell? ⟨p.b, 2, none⟩ = some (.int .i64 s.o) := h.o.cell 2
theorem TM.c3 (h : TM B w p s) : w.cell? ⟨p.b, 3, none⟩ = some (p.atV s.root) := h.o.cell 3
theorem TM.c4 (h : TM B w p s) : w.cell? ⟨p.b, 4, none⟩ = some (.slice p.lv s.nl p.lc) := h.o.cell 4
theorem TM.c5 (h : TM B w p s) : w.cell? ⟨p.b, 5, none⟩ = some (.int .i64 (s.dep : Int)) := h.o.cell 5
theorem TM.c6 (h : TM B w p s) : w.cell? ⟨p.b, 6, none⟩ = some (.slice p.sa s.sif.length p.sc) := h.o.cell 6
theorem TM.c7 (h : TM B w p s) : w.cell? ⟨p.b, 7, none⟩ = some (p.atV s.pos) := h.o.cell 7
theorem TM.frz (h : TM B w p s) (i : Nat) : w.frozen? ⟨p.b, i, none⟩ = false := h.o.frz i
/-- A leaf's pointer. -/
theorem TM.at (h : TM B w p s) {j : Nat} (hj : j < s.nl) : ∃ g, p.lv = some ⟨g, 0, none⟩ ∧ s.nl ≤ p.lc ∧ p.lc ≤ maxLen ∧ ∀ i, i < s.nl → w.cell? ⟨g, i, none⟩ = some (.pointer (some ⟨p.fb i, 0, none⟩)) := by
  have hln : ((List.range s.nl).map p.fb).length = s.nl := by simp
  obtain ⟨g, c, e, e1, e2, _, _, h1, _⟩ := h.lv.pos ptE_len 0 (by omega)
  injection e with e3 e4 e5
  subst e5
  refine ⟨g, e3, by omega, e2, fun i hi => ?_⟩
  have := h1 i 0 (by omega) (by omega)
  rw [Nat.mul_one, Nat.add_zero] at this
  rw [this]
  simp [ptE, hi]
theorem TM.n0 (h : TM B w p s) {i : Nat} (hi : i < s.nn) : w.cell? ⟨p.ib i, 0, none⟩ = some (p.upV (s.nd i).up) := (h.nd i hi).cell 0
theorem TM.n2 (h : TM B w p s) {i : Nat} (hi : i < s.nn) : w.cell? ⟨p.ib i, 2, none⟩ = some (.int .i64 ((s.nd i).pa.length : Int)) := (h.nd i hi).cell 2
theorem TM.n3 (h : TM B w p s) {i : Nat} (hi : i < s.nn) : w.cell? ⟨p.ib i, 3, none⟩ = some (.slice (p.wa i) (s.nd i).wd.length (p.wc i)) := (h.nd i hi).cell 3
theorem TM.n4 (h : TM B w p s) {i : Nat} (hi : i < s.nn) : w.cell? ⟨p.ib i, 4, none⟩ = some (.map (some (p.mb i))) := (h.nd i hi).cell 4
theorem TM.f0 (h : TM B w p s) {j : Nat} (hj : j < s.nl) : w.cell? ⟨p.fb j, 0, none⟩ = some (p.upV (s.lf j).up) := (h.lf j hj).cell 0
theorem TM.f3 (h : TM B w p s) {j : Nat} (hj : j < s.nl) : w.cell? ⟨p.fb j, 3, none⟩ = some (.int .i64 (j : Int)) := (h.lf j hj).cell 3
theorem TM.f4 (h : TM B w p s) {j : Nat} (hj : j < s.nl) : w.cell? ⟨p.fb j, 4, none⟩ = some (.slice (p.fa j) (s.lf j).ac.length (p.fc j)) := (h.lf j hj).cell 4
end

end Go.Proofs.Ytlcablkhomnieaa

/-
  The program's tree: a node is made known by where it stands.
-/
namespace Go.Proofs.Ytlcablkhomnieaa
set_option linter.unusedVariables false
open Go.RowKit

theorem ldSpot {b : Nat} {w : World} {c0 c1 c2 : Value} (h0 : w.cell? ⟨b, 0, none⟩ = some c0) (h1 : w.cell? ⟨b, 1, none⟩ = some c1) (h2 : w.cell? ⟨b, 2, none⟩ = some c2) : (loadVar 89 ⟨b, 0, none⟩).run Try.prog w = .ok (.agg #[c0, c1, c2]) w := by
  simp [loadVar, go_sem, h0, h1, h2]
/-- A method of an embedded struct's, by a pointer. -/
theorem meth_emb {P : Program} {t st et : TypeId} {f : FuncId} {name : String} {n b k : Nat} {w : World} {v : Value} {fs : Array Field} {fd : Field}
    (hm : ((P.info? t).bind fun i => i.methods.find? (·.name == name)).map (fun m => (m.func, m.path.toList)) = some (some (f, false), [⟨st, 0, true⟩]))
    (hs : P.underlying st = some (.struct fs)) (hf : fs[0]? = some fd) (ht : fd.type = et) (ho : fd.offset = 0) (hz : (P.info? et).map (·.size) = some (k + 1))
    (hp : (P.underlying et).map (fun u => match u with | .pointer _ => true | _ => false) = some false)
    (hl : (loadVar et ⟨b, 0, none⟩).run P w = .ok v w) : (Go.method (n + 1) t (.pointer (some ⟨b, 0, none⟩)) name).run P w = .ok (f, v) w := by
  obtain ⟨m, hm1, hm2⟩ := Option.map_eq_some_iff.1 hm
  obtain ⟨i, hi1, hi2⟩ := Option.bind_eq_some_iff.1 hm1
  injection hm2 with hm3 hm4
  obtain ⟨u, hu1, hu2⟩ := Option.map_eq_some_iff.1 hp
  subst ht
  have hu := run_underlying hu1 (w := w)
  obtain ⟨j, hj1, hj2⟩ := Option.map_eq_some_iff.1 hz
  have hsz : ∀ w, (Go.sizeOf fd.type).run P w = .ok (k + 1) w := fun w => by simp [Go.sizeOf, typeInfo, hj1, hj2]
  have hr : ∀ nm, (Go.receiverAt fd.type (.var ⟨b, 0, none⟩) false nm).run P w = .ok v w := fun nm => by
    unfold Go.receiverAt
    cases u <;> simp_all [Go.Place.get]
  simp only [Go.method]
  simp [typeInfo, hi1, hi2, hm3, hm4, Go.follow, run_underlying hs, hf, Go.fieldPlace, ho, Go.Place.get, hsz, asAddr, Addr.add, hr]
theorem spotHz : (Try.prog.info? 89).map (·.size) = some (2 + 1) := by kernel_rfl
theorem spotHp : (Try.prog.underlying 89).map (fun u => match u with | .pointer _ => true | _ => false) = some false := by kernel_rfl
theorem innMth : ((Try.prog.info? 86).bind fun i => i.methods.find? (·.name == "tutor/tree.place")).map (fun m => (m.func, m.path.toList)) = some (some (95, false), [⟨98, 0, true⟩]) := by kernel_rfl
theorem lefMth : ((Try.prog.info? 84).bind fun i => i.methods.find? (·.name == "tutor/tree.place")).map (fun m => (m.func, m.path.toList)) = some (some (95, false), [⟨111, 0, true⟩]) := by kernel_rfl
theorem methInn {b : Nat} {w : World} {c0 c1 c2 : Value} (h0 : w.cell? ⟨b, 0, none⟩ = some c0) (h1 : w.cell? ⟨b, 1, none⟩ = some c1) (h2 : w.cell? ⟨b, 2, none⟩ = some c2) :
    (Go.method 264 86 (.pointer (some ⟨b, 0, none⟩)) "tutor/tree.place").run Try.prog w = .ok (95, .agg #[c0, c1, c2]) w :=
  meth_emb (et := 89) (k := 2) innMth Try.underlying98 rfl rfl rfl spotHz spotHp (ldSpot h0 h1 h2)
theorem methLef {b : Nat} {w : World} {c0 c1 c2 : Value} (h0 : w.cell? ⟨b, 0, none⟩ = some c0) (h1 : w.cell? ⟨b, 1, none⟩ = some c1) (h2 : w.cell? ⟨b, 2, none⟩ = some c2) :
    (Go.method 264 84 (.pointer (some ⟨b, 0, none⟩)) "tutor/tree.place").run Try.prog w = .ok (95, .agg #[c0, c1, c2]) w :=
  meth_emb (et := 89) (k := 2) lefMth Try.underlying111 rfl rfl rfl spotHz spotHp (ldSpot h0 h1 h2)
/-- Three cells set. -/
def thr (w : World) (b : Nat) (c0 c1 c2 : Value) : World := ((w.setCell ⟨b, 0, none⟩ c0).setCell ⟨b, 1, none⟩ c1).setCell ⟨b, 2, none⟩ c2
theorem Bk.thr {w : World} {b : Nat} {a0 a1 a2 : Value} {cs : List Value} {t : TypeId} (h : Bk w b (a0 :: a1 :: a2 :: cs) t) (c0 c1 c2 : Value) : Bk (Go.Proofs.Ytlcablkhomnieaa.thr w b c0 c1 c2) b (c0 :: c1 :: c2 :: cs) t := by
  have := ((h.set 0 c0).set 1 c1).set 2 c2
  exact this
theorem thr_below {B : Nat} {w w' : World} (h : Below B w w') {b : Nat} (hb : B ≤ b) (c0 c1 c2 : Value) : Below B w (thr w' b c0 c1 c2) :=
  ((h.setCell (p := ⟨b, 0, none⟩) hb c0).setCell (p := ⟨b, 1, none⟩) hb c1).setCell (p := ⟨b, 2, none⟩) hb c2
theorem thr_heap (w : World) {b k : Nat} (c0 c1 c2 : Value) (h : k ≠ b) : (thr w b c0 c1 c2).heap[k]? = w.heap[k]? := by
  unfold thr
  rw [Below.heap_setCell _ _ _ k h, Below.heap_setCell _ _ _ k h, Below.heap_setCell _ _ _ k h]
theorem bk_two (w : World) (cs ds : List Value) (t u : TypeId) : Bk ((w.alloc (.cells cs.toArray t)).alloc (.cells ds.toArray u)) (w.heap.size + 1) ds u := by
  have := Bk.new (w.alloc (.cells cs.toArray t)) ds u
  rwa [World.size_alloc] at this
theorem place_any (q0 : Option Addr) (q1 : ByteArray) (q2 : Int) (w : World) : Calls Try.prog 95 #[.agg #[.pointer q0, .string q1, .int .i64 q2]] w fun e w' => e = .returned (.agg #[.pointer q0, .string q1, .int .i64 q2]) ∧ Below w.heap.size w w' := by
  have Z := hide (bk_two w [.pointer q0, .string q1, .int .i64 q2] [.pointer q0, .string q1, .int .i64 q2] 89 89)
  have HB := hide (bstep (ballo w (.cells #[.pointer q0, .string q1, .int .i64 q2] 89)) (ballo _ (.cells #[.pointer q0, .string q1, .int .i64 q2] 89)))
  change Hid (Bk ((w.alloc (.cells #[.pointer q0, .string q1, .int .i64 q2] 89)).alloc (.cells #[.pointer q0, .string q1, .int .i64 q2] 89)) _ _ _) at Z
  go_enter Try.func95, Try.ntmps95
  go_wp2
  generalize (w.alloc (.cells #[.pointer q0, .string q1, .int .i64 q2] 89)).alloc (.cells #[.pointer q0, .string q1, .int .i64 q2] 89) = X at *
  have y0 : _ = some (Value.pointer q0) := (unhide Z).cell 0
  have y1 : _ = some (Value.string q1) := (unhide Z).cell 1
  have y2 : _ = some (Value.int .i64 q2) := (unhide Z).cell 2
  refine bodyPost_ret (v := .agg #[.pointer q0, .string q1, .int .i64 q2]) ?_ rfl ⟨rfl, unhide HB⟩
  simp [results, Try.results95, go_sem, y0, y1, y2]

section
variable {B : Nat} {w w' : World} {p : Tp} {s : Tr}
/-! ### Blocks that hold different things are not one -/
theorem own_ty {q : IntKind} {t : TypeId} {v : Value} {l : List Int} {b : Nat} (h : OwnL q t w B v l) (e : v.ownBlock = some b) : ∃ cs, w.heap[b]? = some (.cells cs t (0, 0)) := by
  rcases h.2 with ⟨rfl, _⟩ | ⟨g, cap, cur, rfl, hg, hc, _⟩
  · cases e
  · cases e; exact ⟨cur, hc⟩
theorem ownG_ty {α : Type} {t : TypeId} {k : Nat} {enc : α → List Value} {v : Value} {l : List α} {b : Nat} (h : OwnG t k enc w B v l) (e : v.ownBlock = some b) : ∃ cs, w.heap[b]? = some (.cells cs t (0, 0)) := by
  rcases h.2 with ⟨rfl, _⟩ | ⟨g, cap, cur, rfl, hg, hc, _⟩
  · cases e
  · cases e; exact ⟨cur, hc⟩
theorem bk_ne {b k : Nat} {cs : List Value} {ds : Array Value} {t u : TypeId} (h : Bk w b cs t) (g : w.heap[k]? = some (.cells ds u (0, 0))) (ht : t ≠ u) : k ≠ b := fun e => by
  subst e
  have h' : w.heap[k]? = _ := h
  rw [g] at h'
  injection h' with h'
  injection h' with _ h'
  exact ht h'.symm
theorem bk_map {b k : Nat} {cs : List Value} {t : TypeId} (h : Bk w b cs t) (g : ∃ es c, w.heap[k]? = some (.map es c)) : k ≠ b := fun e => by
  subst e
  obtain ⟨es, c, g⟩ := g
  have h' : w.heap[k]? = _ := h
  rw [g] at h'
  injection h' with h'
  cases h'
theorem ty_map {b k : Nat} {ds : Array Value} {u : TypeId} (g : w.heap[k]? = some (.cells ds u (0, 0))) (h : ∃ es c, w.heap[b]? = some (.map es c)) : k ≠ b := fun e => by
  subst e
  obtain ⟨es, c, h⟩ := h
  rw [g] at h
  injection h with h
  cases h
/-- The tree's own cells turned. -/
theorem TM.obj (h : TM B w p s) (hk : ∀ k, k ≠ p.b → w'.heap[k]? = w.heap[k]?) (dep : Nat) (root pos : Option Nd) (ho : Bk w' p.b (trC p { s with dep := dep, root := root, pos := pos }) 83) : TM B w' p { s with dep := dep, root := root, pos := pos } where
  o := ho
  nd i hi := (hk _ (bk_ne h.o (h.nd i hi) (by decide))).trans (h.nd i hi)
  mp i hi := (h.mp i hi).keep (hk _ (bk_map h.o (h.mp i hi).isMap))
  wd i hi := (h.wd i hi).keep fun b e => by obtain ⟨cs, g⟩ := own_ty (h.wd i hi) e; exact hk b (bk_ne h.o g (by decide))
  lf j hj := (hk _ (bk_ne h.o (h.lf j hj) (by decide))).trans (h.lf j hj)
  ac j hj := (h.ac j hj).keep fun b e => by obtain ⟨cs, g⟩ := own_ty (h.ac j hj) e; exact hk b (bk_ne h.o g (by decide))
  lv := h.lv.keep fun b e => by obtain ⟨cs, g⟩ := ownG_ty h.lv e; exact hk b (bk_ne h.o g (by decide))
  sf := h.sf.keep fun b e => by obtain ⟨cs, g⟩ := own_ty h.sf e; exact hk b (bk_ne h.o g (by decide))
  mi := h.mi
  b0 := h.b0
  b1 := h.b1
  b2 := h.b2
/-- The same with another word sifted. -/
theorem TM.sift (h : TM B w p s) (hk : ∀ k, k < w.heap.size → k ≠ p.b → w'.heap[k]? = w.heap[k]?) (l : List Int) (sa : Option Addr) (sc : Nat) (pos : Option Nd) (hl : OwnL .i64 3 w' B (.slice sa l.length sc) l)
    (ho : Bk w' p.b (trC { p with sa := sa, sc := sc } { s with sif := l, pos := pos }) 83) : TM B w' { p with sa := sa, sc := sc } { s with sif := l, pos := pos } where
  o := ho
  nd i hi := (hk _ (h.nd i hi).lt (bk_ne h.o (h.nd i hi) (by decide))).trans (h.nd i hi)
  mp i hi := (h.mp i hi).keep (hk _ (h.mp i hi).lt (bk_map h.o (h.mp i hi).isMap))
  wd i hi := (h.wd i hi).keep fun b e => by obtain ⟨cs, g⟩ := own_ty (h.wd i hi) e; exact hk b ((h.wd i hi).lt e).2 (bk_ne h.o g (by decide))
  lf j hj := (hk _ (h.lf j hj).lt (bk_ne h.o (h.lf j hj) (by decide))).trans (h.lf j hj)
  ac j hj := (h.ac j hj).keep fun b e => by obtain ⟨cs, g⟩ := own_ty (h.ac j hj) e; exact hk b ((h.ac j hj).lt e).2 (bk_ne h.o g (by decide))
  lv := h.lv.keep fun b e => by obtain ⟨cs, g⟩ := ownG_ty h.lv e; exact hk b (h.lv.lt e).2 (bk_ne h.o g (by decide))
  sf := hl
  mi := h.mi
  b0 := h.b0
  b1 := h.b1
  b2 := h.b2
/-- A child more, or another one. -/
theorem TM.put (h : TM B w p s) {u : Nat} (hu : u < s.nn) (hs : p.sz u < maxLen) {an : List Int} (ha : okS an) (n : Nd) :
    ∃ w', (Instr.mapUpdate 96 (.map (some (p.mb u))) (.string (sp an)) (p.ndV n)).run Try.prog w = .ok () w' ∧
      TM B w' { p with sz := updV p.sz u (if (s.ch u an).isSome = true then p.sz u else p.sz u + 1) } { s with ch := updV s.ch u fun x => if x = an then some n else s.ch u x } ∧ w.mapTurned w' (p.mb u) := by
  obtain ⟨w', q1, q2, q3⟩ := (h.mp u hu).put keysT (t := 96) Try.underlying96 hs ha (p.ndV n)
  refine ⟨w', q1, ?_, q3⟩
  have hk : ∀ k, k < w.heap.size → k ≠ p.mb u → w'.heap[k]? = w.heap[k]? := fun k h1 h2 => q3.grown.block k h1 (by simpa using h2)
  have hM := (h.mp u hu).isMap
  exact {
    o := (hk _ h.o.lt fun e => bk_map h.o hM e.symm).trans h.o
    nd := fun i hi => (hk _ (h.nd i hi).lt fun e => bk_map (h.nd i hi) hM e.symm).trans (h.nd i hi)
    mp := fun i hi => by
      by_cases c : i = u
      · subst c
        show FMap _ _ _ w' (p.mb i) (updV p.sz i _ i) (fun x => (updV s.ch i _ i x).map p.ndV)
        rw [updV_same, updV_same]
        have e1 : (fun x => if x = an then some (p.ndV n) else (s.ch i x).map p.ndV) = fun x => (if x = an then some n else s.ch i x).map p.ndV := by
          funext x
          by_cases e : x = an
          · rw [if_pos e, if_pos e]; rfl
          · rw [if_neg e, if_neg e]
        rw [← e1]
        rw [Option.isSome_map] at q2
        exact q2
      · show FMap _ _ _ w' (p.mb i) (updV p.sz u _ i) (fun x => (updV s.ch u _ i x).map p.ndV)
        rw [updV_ne c, updV_ne c]
        exact (h.mp i hi).keep (hk _ (h.mp i hi).lt fun e => c (h.mi i u hi hu e))
    wd := fun i hi => (h.wd i hi).keep fun b e => by obtain ⟨cs, g⟩ := own_ty (h.wd i hi) e; exact hk b ((h.wd i hi).lt e).2 (ty_map g hM)
    lf := fun j hj => (hk _ (h.lf j hj).lt fun e => bk_map (h.lf j hj) hM e.symm).trans (h.lf j hj)
    ac := fun j hj => (h.ac j hj).keep fun b e => by obtain ⟨cs, g⟩ := own_ty (h.ac j hj) e; exact hk b ((h.ac j hj).lt e).2 (ty_map g hM)
    lv := h.lv.keep fun b e => by obtain ⟨cs, g⟩ := ownG_ty h.lv e; exact hk b (h.lv.lt e).2 (ty_map g hM)
    sf := h.sf.keep fun b e => by obtain ⟨cs, g⟩ := own_ty h.sf e; exact hk b (h.sf.lt e).2 (ty_map g hM)
    mi := h.mi
    b0 := h.b0
    b1 := h.b1
    b2 := h.b2 }
/-- What is known of it in memory where a node is known. -/
theorem TM.spot (h : TM B w p s) {n : Nd} (hn : s.is n) : ∃ T b, p.ndV n = .iface T (.pointer (some ⟨b, 0, none⟩)) ∧ b < w.heap.size ∧
    (Go.method 264 T (.pointer (some ⟨b, 0, none⟩)) "tutor/tree.place").run Try.prog w = .ok (95, .agg #[p.upV (s.upN n), .string (sp (s.anN n)), .int .i64 ((s.paN n).length : Int)]) w := by
  cases n with
  | inl i => exact ⟨_, _, rfl, (h.nd i hn).lt, methInn ((h.nd i hn).cell 0) ((h.nd i hn).cell 1) ((h.nd i hn).cell 2)⟩
  | inr j => exact ⟨_, _, rfl, (h.lf j hn).lt, methLef ((h.lf j hn).cell 0) ((h.lf j hn).cell 1) ((h.lf j hn).cell 2)⟩
def Tp.hang (p : Tp) (s : Tr) (n : Nd) : Tp :=
  { p with sz := match s.upN n with
      | none => p.sz
      | some u => updV p.sz u (if (s.ch u (s.anN n)).isSome = true then p.sz u else p.sz u + 1) }
set_option maxRecDepth 100000 in
set_option maxHeartbeats 4000000 in
theorem hang_any (h : TM B w p s) (n : Nd) (hn : s.is n) (hup : ∀ u, s.upN n = some u → u < s.nn ∧ p.sz u < maxLen) (hs : okS (s.anN n)) :
    Calls Try.prog 64 #[.pointer (some ⟨p.b, 0, none⟩), p.ndV n] w fun e w' => e = .returned (.tuple #[]) ∧ TM B w' (p.hang s n) (s.hang n) ∧ Bx (p.has s) w w' := by
  obtain ⟨T, bn, hT, hbn, hm⟩ := h.spot hn
  rw [hT]
  have c5 := h.c5
  have hpl := place_any ((s.upN n).map fun i => ⟨p.ib i, 0, none⟩) (sp (s.anN n)) ((s.paN n).length : Int) w
  unfold Tp.upV at hm
  have fz := h.frz
  have HH := hide h
  clear h
  go_enter Try.func64, Try.ntmps64
  go_wp2_with (go_at_call 95; refine hpl.mono ?_; rintro e w1 ⟨rfl, hb1⟩)
  clear c5 fz hpl hm
  have HW := hide (((unhide HH).below hb1).below (ballo w1 (.cells #[.pointer ((s.upN n).map fun i => ⟨p.ib i, 0, none⟩), .string (sp (s.anN n)), .int .i64 ((s.paN n).length : Int)] 89)))
  have HK := hide (Bk.new w1 [.pointer ((s.upN n).map fun i => ⟨p.ib i, 0, none⟩), .string (sp (s.anN n)), .int .i64 ((s.paN n).length : Int)] 89)
  have HB := hide (bstep hb1 (ballo w1 (.cells #[.pointer ((s.upN n).map fun i => ⟨p.ib i, 0, none⟩), .string (sp (s.anN n)), .int .i64 ((s.paN n).length : Int)] 89)))
  change Hid (Bk (w1.alloc (.cells #[.pointer ((s.upN n).map fun i => ⟨p.ib i, 0, none⟩), .string (sp (s.anN n)), .int .i64 ((s.paN n).length : Int)] 89)) _ _ _) at HK
  generalize w1.alloc (.cells #[.pointer ((s.upN n).map fun i => ⟨p.ib i, 0, none⟩), .string (sp (s.anN n)), .int .i64 ((s.paN n).length : Int)] 89) = W at *
  have c5 := (unhide HW).c5
  have fz := (unhide HW).frz
  have k0 : _ = some (Value.pointer ((s.upN n).map fun i => ⟨p.ib i, 0, none⟩)) := (unhide HK).cell 0
  have k1 : _ = some (Value.string (sp (s.anN n))) := (unhide HK).cell 1
  have k2 : _ = some (Value.int .i64 ((s.paN n).length : Int)) := (unhide HK).cell 2
  have hmx : (if s.dep < (s.paN n).length then ((s.paN n).length : Int) else (s.dep : Int)) = ((max s.dep (s.paN n).length : Nat) : Int) := by
    split <;> omega
  have HW2 := hide ((unhide HW).obj (w' := (W.setCell ⟨p.b, 5, none⟩ (.int .i64 ((max s.dep (s.paN n).length : Nat) : Int))).drew) (fun k hk => Below.heap_setCell _ _ _ k hk) (max s.dep (s.paN n).length) s.root s.pos ((unhide HW).o.set 5 _))
  have HK2 := hide (show Bk (W.setCell ⟨p.b, 5, none⟩ (.int .i64 ((max s.dep (s.paN n).length : Nat) : Int))).drew w1.heap.size [.pointer ((s.upN n).map fun i => ⟨p.ib i, 0, none⟩), .string (sp (s.anN n)), .int .i64 ((s.paN n).length : Int)] 89 from (Below.heap_setCell _ _ _ w1.heap.size (fun e => by
      have := ((unhide HH).below hb1).o.lt
      have e' : w1.heap.size = p.b := e
      omega)).trans (unhide HK))
  have HX2 := hide (((Bx.of (X := p.has s) (unhide HB)).setCell (p := ⟨p.b, 5, none⟩) (.inl rfl) (.int .i64 ((max s.dep (s.paN n).length : Nat) : Int))).drew)
  have HMX := hide hmx
  clear hmx
  go_region
  rw [unhide HMX]
  clear c5 fz k0 k1 k2 HK HW HMX
  generalize (W.setCell ⟨p.b, 5, none⟩ (.int .i64 ((max s.dep (s.paN n).length : Nat) : Int))).drew = W2 at *
  have k0 : _ = some (Value.pointer ((s.upN n).map fun i => ⟨p.ib i, 0, none⟩)) := (unhide HK2).cell 0
  have k1 : _ = some (Value.string (sp (s.anN n))) := (unhide HK2).cell 1
  have fz := (unhide HW2).frz
  have c3 := (unhide HW2).c3
  cases hu : s.upN n with
  | none =>
    have HP : Hid (∀ W3, W3 = W2.setCell ⟨p.b, 3, none⟩ (p.ndV n) → TM B W3 (p.hang s n) (s.hang n) ∧ Bx (p.has s) w W3) := hide fun W3 e => by
      subst e
      refine ⟨?_, (unhide HX2).setCell (p := ⟨p.b, 3, none⟩) (.inl rfl) _⟩
      have := (unhide HW2).obj (w' := W2.setCell ⟨p.b, 3, none⟩ (p.ndV n)) (fun k hk => Below.heap_setCell _ _ _ k hk) (max s.dep (s.paN n).length) (some n) s.pos ((unhide HW2).o.set 3 _)
      have e1 : p.hang s n = p := by unfold Tp.hang; rw [hu]
      have e2 : s.hang n = { s with dep := max s.dep (s.paN n).length, root := some n } := by unfold Tr.hang; rw [hu]; simp
      rw [e1, e2]
      exact this
    rw [hT] at HP
    rw [hu] at k0
    go_wp2
    refine bodyPost_ret (v := .tuple #[]) ?_ rfl ⟨rfl, unhide HP _ rfl⟩
    simp [results, Try.results64, go_sem]
  | some u =>
    obtain ⟨h1, h2⟩ := hup u hu
    have n4 := (unhide HW2).n4 h1
    obtain ⟨W3, hr, hq, hg⟩ := ((unhide HW2).keep (w' := W2.drew) fun _ _ => rfl).put (u := u) h1 h2 hs n
    have HP : Hid (TM B W3 (p.hang s n) (s.hang n) ∧ Bx (p.has s) w W3) := hide ⟨by
      have e1 : p.hang s n = { p with sz := updV p.sz u (if (s.ch u (s.anN n)).isSome = true then p.sz u else p.sz u + 1) } := by unfold Tp.hang; rw [hu]
      have e2 : s.hang n = { s with dep := max s.dep (s.paN n).length, ch := updV s.ch u fun x => if x = s.anN n then some n else s.ch u x } := by unfold Tr.hang; rw [hu]; simp
      rw [e1, e2]
      exact hq, Bx.turned (unhide HX2).drew hg (.inr (.inr (.inl ⟨u, h1, rfl⟩)))⟩
    rw [hT] at hr
    rw [hu] at k0
    clear hq hg
    go_wp2
    go_region
    go_end0
    exact ⟨rfl, unhide HP⟩
end

end Go.Proofs.Ytlcablkhomnieaa

/-
  The program's tree in memory: a leaf more, a node more, a leaf that stands elsewhere.
-/
namespace Go.Proofs.Ytlcablkhomnieaa
set_option linter.unusedVariables false
open Go.RowKit

def GwT (p p' : Tp) (s s' : Tr) (N : Nat) : Prop := ∀ k, p'.has s' k → p.has s k ∨ N ≤ k
section
variable {B : Nat} {w w' : World} {p : Tp} {s : Tr}
theorem upV_congr {p p' : Tp} {N : Nat} (h : ∀ i, i < N → p'.ib i = p.ib i) {u : Option Nat} (hu : ∀ i, u = some i → i < N) : p'.upV u = p.upV u := by
  cases u with
  | none => rfl
  | some i => unfold Tp.upV; rw [Option.map_some, Option.map_some, h i (hu i rfl)]
theorem ndV_congr {p p' : Tp} {s : Tr} (h : ∀ i, i < s.nn → p'.ib i = p.ib i) (g : ∀ j, j < s.nl → p'.fb j = p.fb j) {n : Nd} (hn : s.is n) : p'.ndV n = p.ndV n := by
  cases n with
  | inl i => simp only [Tp.ndV, h i hn]
  | inr j => simp only [Tp.ndV, g j hn]
theorem atV_congr {p p' : Tp} {s : Tr} (h : ∀ i, i < s.nn → p'.ib i = p.ib i) (g : ∀ j, j < s.nl → p'.fb j = p.fb j) {n : Option Nd} (hn : ∀ m, n = some m → s.is m) : p'.atV n = p.atV n := by
  cases n with
  | none => rfl
  | some m => exact ndV_congr h g (hn m rfl)
theorem ch_congr {p p' : Tp} {s : Tr} (K : s.Ok) (h : ∀ i, i < s.nn → p'.ib i = p.ib i) (g : ∀ j, j < s.nl → p'.fb j = p.fb j) {i : Nat} (hi : i < s.nn) : (fun x => (s.ch i x).map p'.ndV) = fun x => (s.ch i x).map p.ndV := by
  funext x
  cases q : s.ch i x with
  | none => rfl
  | some n => rw [Option.map_some, Option.map_some, ndV_congr h g (K.ch i x n hi q)]
/-- A leaf more. -/
theorem TM.moreL (h : TM B w p s) (K : s.Ok) (hk : ∀ k, k < w.heap.size → k ≠ p.b → obT p.lv ≠ some k → w'.heap[k]? = w.heap[k]?) (x : Lfr) (hx : ∀ u, x.up = some u → u < s.nn) {g : Nat} {fa lv : Option Addr} {fc lc : Nat}
    (ho : Bk w' p.b (trC { p with lv := lv, lc := lc } { s with nl := s.nl + 1 }) 83) (hg : B ≤ g) (hf : Bk w' g [p.upV x.up, .string (sp x.an), .int .i64 (x.pa.length : Int), .int .i64 (s.nl : Int), .slice fa x.ac.length fc] 111) (ha : OwnL .i64 3 w' B (.slice fa x.ac.length fc) x.ac)
    (hl : OwnG 84 1 ptE w' B (.slice lv (s.nl + 1) lc) ((List.range s.nl).map p.fb ++ [g])) :
    TM B w' { p with lv := lv, lc := lc, fb := updV p.fb s.nl g, fa := updV p.fa s.nl fa, fc := updV p.fc s.nl fc } { s with nl := s.nl + 1, lf := updV s.lf s.nl x } := by
  have hne : ∀ {j : Nat}, j < s.nl → j ≠ s.nl := fun h e => by omega
  have c1 : ∀ i, i < s.nn → ({ p with lv := lv, lc := lc, fb := updV p.fb s.nl g, fa := updV p.fa s.nl fa, fc := updV p.fc s.nl fc } : Tp).ib i = p.ib i := fun _ _ => rfl
  have c2 : ∀ j, j < s.nl → ({ p with lv := lv, lc := lc, fb := updV p.fb s.nl g, fa := updV p.fa s.nl fa, fc := updV p.fc s.nl fc } : Tp).fb j = p.fb j := fun j hj => updV_ne (hne hj)
  have nlv : ∀ {b : Nat} {cs : Array Value} {t : TypeId}, w.heap[b]? = some (.cells cs t (0, 0)) → t ≠ 84 → obT p.lv ≠ some b := fun {b cs t} hb ht e => by
    obtain ⟨ds, hd⟩ := ownG_ty h.lv (show (Value.slice p.lv s.nl p.lc).ownBlock = some b by rw [obS]; exact e)
    rw [hb] at hd
    injection hd with hd
    injection hd with _ hd
    exact ht hd
  have nlm : ∀ {b : Nat}, (∃ es c, w.heap[b]? = some (.map es c)) → obT p.lv ≠ some b := fun {b} hb e => by
    obtain ⟨ds, hd⟩ := ownG_ty h.lv (show (Value.slice p.lv s.nl p.lc).ownBlock = some b by rw [obS]; exact e)
    exact ty_map hd hb rfl
  exact {
    o := by
      have e1 := atV_congr (p := p) c1 c2 K.rt
      have e2 := atV_congr (p := p) c1 c2 K.ps
      have : trC { p with lv := lv, lc := lc, fb := updV p.fb s.nl g, fa := updV p.fa s.nl fa, fc := updV p.fc s.nl fc } { s with nl := s.nl + 1, lf := updV s.lf s.nl x } = trC { p with lv := lv, lc := lc } { s with nl := s.nl + 1 } := by
        unfold trC
        rw [e1, e2]; rfl
      rw [this]; exact ho
    nd := fun i hi => by
      have e := upV_congr (p := p) c1 (u := (s.nd i).up) (fun u e => K.un i u hi e)
      have : inrC { p with lv := lv, lc := lc, fb := updV p.fb s.nl g, fa := updV p.fa s.nl fa, fc := updV p.fc s.nl fc } (s.nd i) i = inrC p (s.nd i) i := by unfold inrC; rw [e]
      show Bk w' (p.ib i) (inrC _ (s.nd i) i) _
      rw [this]
      exact (hk _ (h.nd i hi).lt (bk_ne h.o (h.nd i hi) (by decide)) (nlv (h.nd i hi) (by decide))).trans (h.nd i hi)
    mp := fun i hi => by
      show FMap _ _ _ w' (p.mb i) (p.sz i) (fun x => (s.ch i x).map _)
      rw [ch_congr (p := p) K c1 c2 hi]
      exact (h.mp i hi).keep (hk _ (h.mp i hi).lt (bk_map h.o (h.mp i hi).isMap) (nlm (h.mp i hi).isMap))
    wd := fun i hi => (h.wd i hi).keep fun b e => by obtain ⟨cs, q⟩ := own_ty (h.wd i hi) e; exact hk b ((h.wd i hi).lt e).2 (bk_ne h.o q (by decide)) (nlv q (by decide))
    lf := fun j hj => by
      have hj' : j < s.nl + 1 := hj
      by_cases e : j = s.nl
      · subst e
        have e1 := upV_congr (p := p) c1 (u := x.up) hx
        show Bk w' (updV p.fb s.nl g s.nl) (lfC _ (updV s.lf s.nl x s.nl) s.nl) _
        rw [updV_same, updV_same]
        unfold lfC
        rw [e1]
        show Bk w' g [p.upV x.up, .string (sp x.an), .int .i64 (x.pa.length : Int), .int .i64 (s.nl : Int), .slice (updV p.fa s.nl fa s.nl) x.ac.length (updV p.fc s.nl fc s.nl)] _
        rw [updV_same, updV_same]
        exact hf
      · have hjl : j < s.nl := by omega
        have e1 := upV_congr (p := p) c1 (u := (s.lf j).up) (fun u e => K.uf j u hjl e)
        show Bk w' (updV p.fb s.nl g j) (lfC _ (updV s.lf s.nl x j) j) _
        rw [updV_ne e, updV_ne e]
        unfold lfC
        rw [e1]
        show Bk w' (p.fb j) [p.upV (s.lf j).up, .string (sp (s.lf j).an), .int .i64 ((s.lf j).pa.length : Int), .int .i64 (j : Int), .slice (updV p.fa s.nl fa j) (s.lf j).ac.length (updV p.fc s.nl fc j)] _
        rw [updV_ne e, updV_ne e]
        exact (hk _ (h.lf j hjl).lt (bk_ne h.o (h.lf j hjl) (by decide)) (nlv (h.lf j hjl) (by decide))).trans (h.lf j hjl)
    ac := fun j hj => by
      have hj' : j < s.nl + 1 := hj
      show OwnL _ _ w' B (.slice (updV p.fa s.nl fa j) (updV s.lf s.nl x j).ac.length (updV p.fc s.nl fc j)) (updV s.lf s.nl x j).ac
      by_cases e : j = s.nl
      · subst e
        rw [updV_same, updV_same, updV_same]; exact ha
      · have hjl : j < s.nl := by omega
        rw [updV_ne e, updV_ne e, updV_ne e]
        exact (h.ac j hjl).keep fun b e => by obtain ⟨cs, q⟩ := own_ty (h.ac j hjl) e; exact hk b ((h.ac j hjl).lt e).2 (bk_ne h.o q (by decide)) (nlv q (by decide))
    lv := by
      show OwnG _ _ _ w' B (.slice lv (s.nl + 1) lc) ((List.range (s.nl + 1)).map (updV p.fb s.nl g))
      have : (List.range (s.nl + 1)).map (updV p.fb s.nl g) = (List.range s.nl).map p.fb ++ [g] := by
        rw [List.range_succ, List.map_append]
        congr 1
        · exact List.map_congr_left fun j hj => updV_ne (hne (List.mem_range.1 hj))
        · simp [updV_same]
      rw [this]; exact hl
    sf := h.sf.keep fun b e => by obtain ⟨cs, q⟩ := own_ty h.sf e; exact hk b (h.sf.lt e).2 (bk_ne h.o q (by decide)) (nlv q (by decide))
    mi := h.mi
    b0 := h.b0
    b1 := h.b1
    b2 := fun j hj => by
      have hj' : j < s.nl + 1 := hj
      show B ≤ updV p.fb s.nl g j
      by_cases e : j = s.nl
      · subst e; rw [updV_same]; exact hg
      · rw [updV_ne e]; exact h.b2 j (by omega) }
/-- A node more. -/
theorem TM.moreN (h : TM B w p s) (K : s.Ok) (hb : Below w.heap.size w w') (x : Inr) (hx : ∀ u, x.up = some u → u < s.nn) {g m : Nat} {wa : Option Addr} {wc : Nat} (hg : w.heap.size ≤ g) (hm : w.heap.size ≤ m) (hB : B ≤ w.heap.size)
    (hf : Bk w' g [p.upV x.up, .string (sp x.an), .int .i64 (x.pa.length : Int), .slice wa x.wd.length wc, .map (some m)] 98) (ha : OwnL .i64 3 w' B (.slice wa x.wd.length wc) x.wd) (hmp : w'.heap[m]? = some (.map #[] 0)) :
    TM B w' { p with ib := updV p.ib s.nn g, mb := updV p.mb s.nn m, sz := updV p.sz s.nn 0, wa := updV p.wa s.nn wa, wc := updV p.wc s.nn wc } { s with nn := s.nn + 1, nd := updV s.nd s.nn x, ch := updV s.ch s.nn fun _ => none } := by
  have hne : ∀ {j : Nat}, j < s.nn → j ≠ s.nn := fun h e => by omega
  have H := h.below hb
  have c1 : ∀ i, i < s.nn → ({ p with ib := updV p.ib s.nn g, mb := updV p.mb s.nn m, sz := updV p.sz s.nn 0, wa := updV p.wa s.nn wa, wc := updV p.wc s.nn wc } : Tp).ib i = p.ib i := fun i hi => updV_ne (hne hi)
  have c2 : ∀ j, j < s.nl → ({ p with ib := updV p.ib s.nn g, mb := updV p.mb s.nn m, sz := updV p.sz s.nn 0, wa := updV p.wa s.nn wa, wc := updV p.wc s.nn wc } : Tp).fb j = p.fb j := fun _ _ => rfl
  exact {
    o := by
      have e1 := atV_congr (p := p) c1 c2 K.rt
      have e2 := atV_congr (p := p) c1 c2 K.ps
      have : trC { p with ib := updV p.ib s.nn g, mb := updV p.mb s.nn m, sz := updV p.sz s.nn 0, wa := updV p.wa s.nn wa, wc := updV p.wc s.nn wc } { s with nn := s.nn + 1, nd := updV s.nd s.nn x, ch := updV s.ch s.nn fun _ => none } = trC p s := by
        unfold trC
        rw [e1, e2]
      rw [this]; exact H.o
    nd := fun i hi => by
      have hi' : i < s.nn + 1 := hi
      by_cases e : i = s.nn
      · subst e
        have e1 := upV_congr (p := p) c1 (u := x.up) hx
        show Bk w' (updV p.ib s.nn g s.nn) (inrC _ (updV s.nd s.nn x s.nn) s.nn) _
        rw [updV_same, updV_same]
        unfold inrC
        rw [e1]
        show Bk w' g [p.upV x.up, .string (sp x.an), .int .i64 (x.pa.length : Int), .slice (updV p.wa s.nn wa s.nn) x.wd.length (updV p.wc s.nn wc s.nn), .map (some (updV p.mb s.nn m s.nn))] _
        rw [updV_same, updV_same, updV_same]
        exact hf
      · have hil : i < s.nn := by omega
        have e1 := upV_congr (p := p) c1 (u := (s.nd i).up) (fun u e => K.un i u hil e)
        show Bk w' (updV p.ib s.nn g i) (inrC _ (updV s.nd s.nn x i) i) _
        rw [updV_ne e, updV_ne e]
        unfold inrC
        rw [e1]
        show Bk w' (p.ib i) [p.upV (s.nd i).up, .string (sp (s.nd i).an), .int .i64 ((s.nd i).pa.length : Int), .slice (updV p.wa s.nn wa i) (s.nd i).wd.length (updV p.wc s.nn wc i), .map (some (updV p.mb s.nn m i))] _
        rw [updV_ne e, updV_ne e, updV_ne e]
        exact H.nd i hil
    mp := fun i hi => by
      have hi' : i < s.nn + 1 := hi
      show FMap _ _ _ w' (updV p.mb s.nn m i) (updV p.sz s.nn 0 i) (fun x => (updV s.ch s.nn (fun _ => none) i x).map _)
      by_cases e : i = s.nn
      · subst e
        rw [updV_same, updV_same, updV_same]
        have : FMap 87 (fun l : List Int => .string (sp l)) okS w' m 0 (fun _ => none) := by
          obtain ⟨D, ⟨es, clock, hb, r⟩, h2⟩ := FMap.made (K := 87) (ek := fun l : List Int => .string (sp l)) (ok := okS) w'
          exact ⟨D, ⟨es, clock, by rw [hmp, ← hb]; exact (heap_alloc_new _ _).symm, r⟩, h2⟩
        exact this
      · have hil : i < s.nn := by omega
        rw [updV_ne e, updV_ne e, updV_ne e, ch_congr (p := p) K c1 c2 hil]
        exact H.mp i hil
    wd := fun i hi => by
      have hi' : i < s.nn + 1 := hi
      show OwnL _ _ w' B (.slice (updV p.wa s.nn wa i) (updV s.nd s.nn x i).wd.length (updV p.wc s.nn wc i)) (updV s.nd s.nn x i).wd
      by_cases e : i = s.nn
      · subst e; rw [updV_same, updV_same, updV_same]; exact ha
      · rw [updV_ne e, updV_ne e, updV_ne e]; exact H.wd i (by omega)
    lf := fun j hj => by
      have e1 := upV_congr (p := p) c1 (u := (s.lf j).up) (fun u e => K.uf j u hj e)
      show Bk w' (p.fb j) (lfC _ (s.lf j) j) _
      unfold lfC
      rw [e1]
      exact H.lf j hj
    ac := H.ac
    lv := H.lv
    sf := H.sf
    mi := fun i j hi hj e => by
      have hi' : i < s.nn + 1 := hi
      have hj' : j < s.nn + 1 := hj
      have e' : updV p.mb s.nn m i = updV p.mb s.nn m j := e
      by_cases c : i = s.nn
      · by_cases d : j = s.nn
        · rw [c, d]
        · rw [c, updV_same, updV_ne d] at e'
          have := (h.mp j (by omega)).lt; omega
      · by_cases d : j = s.nn
        · rw [d, updV_same, updV_ne c] at e'
          have := (h.mp i (by omega)).lt; omega
        · rw [updV_ne c, updV_ne d] at e'
          exact h.mi i j (by omega) (by omega) e'
    b0 := h.b0
    b1 := fun i hi => by
      have hi' : i < s.nn + 1 := hi
      show B ≤ updV p.ib s.nn g i ∧ B ≤ updV p.mb s.nn m i
      by_cases e : i = s.nn
      · subst e; rw [updV_same, updV_same]; exact ⟨by omega, by omega⟩
      · rw [updV_ne e, updV_ne e]; exact h.b1 i (by omega)
    b2 := h.b2 }
/-- A leaf stands elsewhere. -/
theorem TM.mvL (h : TM B w p s) {j : Nat} (hj : j < s.nl) (up : Option Nat) (an : List Int) (pa : Pth) :
    TM B (thr w (p.fb j) (p.upV up) (.string (sp an)) (.int .i64 (pa.length : Int))) p { s with lf := updV s.lf j ⟨up, an, pa, (s.lf j).ac⟩ } := by
  have hk : ∀ k, k ≠ p.fb j → (thr w (p.fb j) (p.upV up) (.string (sp an)) (.int .i64 (pa.length : Int))).heap[k]? = w.heap[k]? := fun k hk => thr_heap w _ _ _ hk
  have hJ := h.lf j hj
  have hnew := hJ.thr (p.upV up) (.string (sp an)) (.int .i64 (pa.length : Int))
  exact {
    o := (hk _ fun e => bk_ne hJ (show w.heap[p.b]? = _ from h.o) (by decide) e).trans h.o
    nd := fun i hi => (hk _ (bk_ne hJ (h.nd i hi) (by decide))).trans (h.nd i hi)
    mp := fun i hi => (h.mp i hi).keep (hk _ (bk_map hJ (h.mp i hi).isMap))
    wd := fun i hi => (h.wd i hi).keep fun b e => by obtain ⟨cs, q⟩ := own_ty (h.wd i hi) e; exact hk b (bk_ne hJ q (by decide))
    lf := fun i hi => by
      by_cases e : i = j
      · subst e
        show Bk _ (p.fb i) (lfC p (updV s.lf i _ i) i) _
        rw [updV_same]
        exact hnew
      · show Bk _ (p.fb i) (lfC p (updV s.lf j _ i) i) _
        rw [updV_ne e]
        refine (hk _ fun c => ?_).trans (h.lf i hi)
        have a := (h.lf i hi).cell 3
        have b := hJ.cell 3
        rw [c, b] at a
        have a' : some (Value.int .i64 (j : Int)) = some (Value.int .i64 (i : Int)) := a
        injection a' with a'
        injection a' with _ a'
        omega
    ac := fun i hi => by
      show OwnL _ _ _ B (.slice (p.fa i) (updV s.lf j _ i).ac.length (p.fc i)) (updV s.lf j _ i).ac
      have e : (updV s.lf j ⟨up, an, pa, (s.lf j).ac⟩ i).ac = (s.lf i).ac := by
        by_cases e : i = j
        · subst e; rw [updV_same]
        · rw [updV_ne e]
      rw [e]
      exact (h.ac i hi).keep fun b e => by obtain ⟨cs, q⟩ := own_ty (h.ac i hi) e; exact hk b (bk_ne hJ q (by decide))
    lv := h.lv.keep fun b e => by obtain ⟨cs, q⟩ := ownG_ty h.lv e; exact hk b (bk_ne hJ q (by decide))
    sf := h.sf.keep fun b e => by obtain ⟨cs, q⟩ := own_ty h.sf e; exact hk b (bk_ne hJ q (by decide))
    mi := h.mi
    b0 := h.b0
    b1 := h.b1
    b2 := h.b2 }
end

end Go.Proofs.Ytlcablkhomnieaa

/-
  The program's tree: small functions: where, below, spell, fits, ofNode, has, isFull, haveOutputs.
-/
namespace Go.Proofs.Ytlcablkhomnieaa
set_option linter.unusedVariables false
open Go.RowKit

theorem asP_own {P : Program} {t xT e : TypeId} (hu : P.underlying t = some (.pointer e)) (v : Value) (w : World) : (Instr.typeAssert (.iface t v) xT t true).run P w = .ok (.tuple #[v, .bool true]) w := by
  simp [Instr.typeAssert, run_underlying hu]
theorem asP_oth {P : Program} {t u xT e : TypeId} {z : Value} (hu : P.underlying u = some (.pointer e)) (hne : t ≠ u) (hz : (P.info? u).map (·.zero) = some (some z)) (v : Value) (w : World) : (Instr.typeAssert (.iface t v) xT u true).run P w = .ok (.tuple #[z, .bool false]) w := by
  obtain ⟨j, hj, hz'⟩ := Option.map_eq_some_iff.1 hz
  simp [Instr.typeAssert, run_underlying hu, hne, zeroValue, typeInfo, hj, hz']
theorem asP_nil {P : Program} {u xT e : TypeId} {z : Value} (hu : P.underlying u = some (.pointer e)) (hz : (P.info? u).map (·.zero) = some (some z)) (w : World) : (Instr.typeAssert .nilIface xT u true).run P w = .ok (.tuple #[z, .bool false]) w := by
  obtain ⟨j, hj, hz'⟩ := Option.map_eq_some_iff.1 hz
  simp [Instr.typeAssert, run_underlying hu, zeroValue, typeInfo, hj, hz']
theorem zInn : (Try.prog.info? 86).map (·.zero) = some (some (.pointer none)) := by kernel_rfl
theorem zLef : (Try.prog.info? 84).map (·.zero) = some (some (.pointer none)) := by kernel_rfl

section
variable {B : Nat} {w w' : World} {p : Tp} {s : Tr}
/-- What where tells. -/
def Tp.whV (p : Tp) : Option Nd → Value
  | none => .tuple #[.pointer none, .pointer none]
  | some (.inl i) => .tuple #[.pointer (some ⟨p.ib i, 0, none⟩), .pointer none]
  | some (.inr j) => .tuple #[.pointer none, .pointer (some ⟨p.fb j, 0, none⟩)]
set_option maxRecDepth 100000 in
set_option maxHeartbeats 2000000 in
theorem where_any (h : TM B w p s) : Calls Try.prog 43 #[.pointer (some ⟨p.b, 0, none⟩)] w fun e w' => e = .returned (p.whV s.pos) ∧ w' = w := by
  have c7 := h.c7
  have a1 := asP_nil (xT := 80) Try.underlying86 zInn w
  have a2 := asP_nil (xT := 80) Try.underlying84 zLef w
  have a3 := fun v => asP_own (P := Try.prog) (xT := 80) Try.underlying86 v w
  have a4 := fun v => asP_own (P := Try.prog) (xT := 80) Try.underlying84 v w
  have a5 := fun v => asP_oth (t := 84) (xT := 80) Try.underlying86 (by decide) zInn v w
  clear h
  cases hq : s.pos with
  | none =>
    rw [hq] at c7
    unfold Tp.atV at c7
    go_enter Try.func43, Try.ntmps43
    go_wp2
    go_ret2
    exact ⟨rfl, by trivial⟩
  | some n =>
    cases n with
    | inl i =>
      rw [hq] at c7
      unfold Tp.atV Tp.ndV at c7
      go_enter Try.func43, Try.ntmps43
      go_wp2
      go_ret2
      exact ⟨rfl, by trivial⟩
    | inr j =>
      rw [hq] at c7
      unfold Tp.atV Tp.ndV at c7
      go_enter Try.func43, Try.ntmps43
      go_wp2
      go_ret2
      exact ⟨rfl, by trivial⟩
set_option maxRecDepth 100000 in
set_option maxHeartbeats 2000000 in
theorem below_any (h : TM B w p s) {i : Nat} (hi : i < s.nn) (an : List Int) (hd : (s.nd i).pa.length ≤ 1000000) : Calls Try.prog 48 #[.pointer (some ⟨p.ib i, 0, none⟩), .string (sp an)] w fun e w' => e = .returned (spV p (some i) an ((s.nd i).pa.length + 1)) ∧ Below w.heap.size w w' := by
  have n2 := h.n2 hi
  have hlt := (h.nd i hi).lt
  generalize (s.nd i).pa.length = d at *
  have hE : spV p (some i) an (d + 1) = .agg #[.pointer (some ⟨p.ib i, 0, none⟩), .string (sp an), .int .i64 ((d : Int) + 1)] := by unfold spV Tp.upV; simp
  rw [hE]
  clear hE
  generalize p.ib i = b at *
  have Z := hide (Bk.new w [.pointer (some ⟨b, 0, none⟩), .string (sp an), .int .i64 ((d : Int) + 1)] 89)
  have HB := hide (ballo w (.cells #[.pointer (some ⟨b, 0, none⟩), .string (sp an), .int .i64 ((d : Int) + 1)] 89))
  change Hid (Bk (w.alloc (.cells #[.pointer (some ⟨b, 0, none⟩), .string (sp an), .int .i64 ((d : Int) + 1)] 89)) _ _ _) at Z
  clear h
  go_enter Try.func48, Try.ntmps48
  go_wp2
  generalize w.alloc (.cells #[.pointer (some ⟨b, 0, none⟩), .string (sp an), .int .i64 ((d : Int) + 1)] 89) = X at *
  have y0 : _ = some (Value.pointer (some ⟨b, 0, none⟩)) := (unhide Z).cell 0
  have y1 : _ = some (Value.string (sp an)) := (unhide Z).cell 1
  have y2 : _ = some (Value.int .i64 ((d : Int) + 1)) := (unhide Z).cell 2
  refine bodyPost_ret (v := .agg #[.pointer (some ⟨b, 0, none⟩), .string (sp an), .int .i64 ((d : Int) + 1)]) ?_ rfl ⟨rfl, unhide HB⟩
  simp [results, Try.results48, go_sem, y0, y1, y2]
theorem isFull_any (h : TM B w p s) : Calls Try.prog 47 #[.pointer (some ⟨p.b, 0, none⟩)] w fun e w' => e = .returned (.bool (decide (s.nl = 1024))) ∧ w' = w := by
  have c4 := h.c4
  clear h
  have hd : decide (s.nl = 1024) = ((s.nl : Int) == 1024) := by
    by_cases c : s.nl = 1024
    · rw [c]; rfl
    · rw [decide_eq_false c, beq_eq_false_iff_ne.2 (by omega)]
  rw [hd]
  go_enter Try.func47, Try.ntmps47
  go_wp2
  go_ret
  exact ⟨rfl, by trivial⟩
theorem has_any (h : TM B w p s) (x : Int) : Calls Try.prog 60 #[.pointer (some ⟨p.b, 0, none⟩), .int .i64 x] w fun e w' => e = .returned (.bool (decide (0 ≤ x ∧ x < (s.nl : Int)))) ∧ w' = w := by
  have c4 := h.c4
  clear h
  by_cases h0 : 0 ≤ x
  · have hd : decide (0 ≤ x ∧ x < (s.nl : Int)) = decide (x < (s.nl : Int)) := by simp [h0]
    rw [hd]
    go_enter Try.func60, Try.ntmps60
    go_wp2
    go_ret
    exact ⟨rfl, by trivial⟩
  · have hd : decide (0 ≤ x ∧ x < (s.nl : Int)) = false := by simp [h0]
    rw [hd]
    have h1 : x < 0 := by omega
    clear h0
    go_enter Try.func60, Try.ntmps60
    go_wp2
    go_ret
    exact ⟨rfl, by trivial⟩
end

end Go.Proofs.Ytlcablkhomnieaa

/-
  The program's tree: spell, fits, ofNode, haveOutputs.
-/
namespace Go.Proofs.Ytlcablkhomnieaa
set_option linter.unusedVariables false
open Go.RowKit

/-- said(b). -/
theorem conv_said {w : World} {B : Nat} {v : Value} {l : List UInt8} (h : OwnL .u8 5 w B v (zs l)) : (convert 126 87 v).run Try.prog w = .ok (.string ⟨l.toArray⟩) w := by
  obtain ⟨a, c, rfl, hnil, hlc, hcm, hrd, hblk⟩ := h.shape
  cases a with
  | none =>
    obtain ⟨h0, rfl⟩ := hnil rfl
    rw [zs_len] at h0
    obtain rfl := List.length_eq_zero_iff.1 h0
    kernel_rfl
  | some ad =>
    rw [zs_len] at *
    refine run_convert_bytes_back w 126 87 5 ad c l Try.underlying126 Try.underlying5 Try.underlying87 fun j hj => ?_
    obtain ⟨b, off, e, hc⟩ := hrd.at (i := j) (by rw [zs_len]; exact hj)
    cases e
    rw [add_at, hc j (by rw [zs_len]; exact hj)]
    simp [zs, hj]
set_option maxRecDepth 100000 in
set_option maxHeartbeats 2000000 in
theorem tspell_any (a : Option Addr) (c : Nat) (l : List Int) (w : World) (hr : RdL .i64 w a l) (hb : Sb l) (hl : l.length ≤ 1000000000) :
    Calls Try.prog 45 #[.slice a l.length c] w fun e w' => e = .returned (.string (sp l)) ∧ Below w.heap.size w w' := by
  have HR := hide hr
  have HB := hide hb
  have HC := hide fun (w' : World) (v : Value) (h : OwnL .u8 5 w' w.heap.size v l) => conv_said (w := w') (B := w.heap.size) (v := v) (l := bts l) (by rw [zs_bts hb]; exact h)
  clear hr hb
  go_enter Try.func45, Try.ntmps45
  go_wp2_with (at_make; refine wplL_make e8 rfl (.tmp 7) (.tmp 7) rfl w.heap.size _ _ l.length rfl rfl rfl rfl (by omega) (Nat.le_refl _) ?_; intro w1 ho1 hb1; have HO := hide ho1; clear ho1)
  go_loopw [11] (fun iv wr => ∃ j : Nat, iv = .int .i64 (j : Int) ∧ j ≤ l.length ∧ Below w.heap.size w wr ∧ Hid (OwnL .u8 5 wr w.heap.size (.slice (some ⟨w.heap.size, 0, none⟩) l.length l.length) (l.take j ++ List.replicate (l.length - j) 0))) (fun iv _ => l.length - (intOf iv).toNat)
  case atStart => exact ⟨0, rfl, Nat.zero_le _, hb1, hide (by simpa using unhide HO)⟩
  case round =>
    obtain ⟨j, rfl, hj, hB, HW⟩ := hrel
    by_cases hlt : j < l.length
    · have hlt' : (j : Int) < (l.length : Int) := by omega
      obtain ⟨h1, h2, h3, h4⟩ := (unhide HW).cellN (takes_len hj)
      obtain ⟨b, off, rfl, hc⟩ := (unhide HR).at hlt
      have c0 := (hB.cell (World.block_lt_of_cell? _ _ (hc j hlt))).trans (hc j hlt)
      have d0 := h1 j hlt
      have f0 := h2 j
      obtain ⟨x0, x1⟩ := (unhide HB).at hlt
      have HS := hide ((unhide HW).storeN (takes_len hj) j (l.getD j 0))
      have HT := hide (set_takes (z := 0) hlt)
      generalize l.getD j 0 = x at *
      generalize (l.take j ++ List.replicate (l.length - j) (0 : Int)).getD j 0 = y at *
      have hwx := wrap8 x0 x1
      clear hc h1 h2
      go_wp2
      go_roundw
      case rel => exact ⟨j + 1, by go_num, by omega, hB.setCell (p := ⟨w.heap.size, j, none⟩) (Nat.le_refl _) _, hide (by rw [← unhide HT]; exact unhide HS)⟩
      case measure => simp [intOf]; omega
    · obtain rfl : j = l.length := by omega
      have hcv := unhide HC wr _ (by simpa using unhide HW)
      go_wp2
      go_ret
      exact ⟨rfl, hB⟩

theorem thaveO_any (kind o : Int) (w : World) (hk : kind = 1 ∨ kind = 2) : Calls Try.prog 38 #[.int .i64 kind, .int .i64 o] w fun e w' => e = .returned (.bool (decide (¬ ((kind = 1 ∧ o ≠ 2) ∨ o < 1 ∨ 64 < o)))) ∧ w' = w := by
  rcases hk with rfl | rfl
  · rw [show decide (¬ (((1 : Int) = 1 ∧ o ≠ 2) ∨ o < 1 ∨ 64 < o)) = (o == 2) by
      by_cases h : o = 2
      · subst h; rfl
      · rw [beq_eq_false_iff_ne.2 h]; exact decide_eq_false (fun q => q (.inl ⟨rfl, h⟩))]
    go_enter Try.func38, Try.ntmps38
    go_wp2
    go_ret
    exact ⟨by rfl, by trivial⟩
  · by_cases h1 : 1 ≤ o
    · by_cases h2 : o ≤ 64
      · rw [show decide (¬ (((2 : Int) = 1 ∧ o ≠ 2) ∨ o < 1 ∨ 64 < o)) = true from decide_eq_true (by omega)]
        go_enter Try.func38, Try.ntmps38
        go_wp2
        go_ret
        exact ⟨by rfl, by trivial⟩
      · rw [show decide (¬ (((2 : Int) = 1 ∧ o ≠ 2) ∨ o < 1 ∨ 64 < o)) = false from decide_eq_false (by omega)]
        go_enter Try.func38, Try.ntmps38
        go_wp2
        go_ret
        exact ⟨by rfl, by trivial⟩
    · rw [show decide (¬ (((2 : Int) = 1 ∧ o ≠ 2) ∨ o < 1 ∨ 64 < o)) = false from decide_eq_false (by omega)]
      go_enter Try.func38, Try.ntmps38
      go_wp2
      go_ret
      exact ⟨by rfl, by trivial⟩
section
variable {B : Nat} {w w' : World} {p : Tp} {s : Tr}
def qOfR (s : Tr) (a : Option Addr) (c : Nat) (wd : List Int) : Pq := ⟨⟨1, wd, ⟨s.kind, s.k, s.o, 0, [], []⟩⟩, a, c, none, 0, none, 0⟩
def aOfR (a : Option Addr) (c : Nat) (out : List Int) : Pa := ⟨⟨1, out, []⟩, a, c, none, 0⟩
set_option maxRecDepth 100000 in
set_option maxHeartbeats 2000000 in
theorem rfits_any (a1 : Option Addr) (c1 : Nat) (wd : List Int) (a2 : Option Addr) (c2 : Nat) (out : List Int) (h : TM B w p s) (h2 : RdL .i64 w a2 out) (hl : out.length ≤ maxLen) :
    Calls Try.prog 44 #[.pointer (some ⟨p.b, 0, none⟩), .slice a1 wd.length c1, .slice a2 out.length c2] w fun e w' => e = .returned (.bool (fitR s wd out == 0)) ∧ Below w.heap.size w w' := by
  have k0 := h.c0
  have k1 := h.c1
  have k2 := h.c2
  have hlt := h.o.lt
  have H2 := hide h2
  clear h h2
  go_enter Try.func44, Try.ntmps44
  go_wp2
  go_region
  have hQ := (Qb.alloc w (qOfR s a1 c1 wd) 122).below (Below.refl _ _).drew
  have hbq := (ballo w (.cells #[.int .i64 1, .slice a1 wd.length c1, .int .i64 s.kind, .int .i64 s.k, .int .i64 s.o, .int .i64 0, .slice none 0 0, .slice none 0 0] 122)).drew
  change Qb (w.alloc (.cells #[.int .i64 1, .slice a1 wd.length c1, .int .i64 s.kind, .int .i64 s.k, .int .i64 s.o, .int .i64 0, .slice none 0 0, .slice none 0 0] 122)).drew _ _ at hQ
  generalize (w.alloc (.cells #[.int .i64 1, .slice a1 wd.length c1, .int .i64 s.kind, .int .i64 s.k, .int .i64 s.o, .int .i64 0, .slice none 0 0, .slice none 0 0] 122)).drew = W at *
  obtain ⟨p0, p1, p2, p3, p4, p5, p6, p7⟩ := hQ
  have ht := tcheck_any (qOfR s a1 c1 wd) (aOfR a2 c2 out) W ⟨(unhide H2).below hbq, RdL.nil _ _ _⟩ hl (by unfold maxLen; exact Nat.zero_le _)
  change Calls _ _ #[.agg #[.int .i64 1, .slice a1 wd.length c1, .int .i64 s.kind, .int .i64 s.k, .int .i64 s.o, .int .i64 0, .slice none 0 0, .slice none 0 0], .agg #[.int .i64 1, .slice a2 out.length c2, .slice none 0 0]] _ (fun e w' => e = .returned (.int .i64 (fitR s wd out)) ∧ Below W.heap.size W w') at ht
  change W.cell? _ = some (.int .i64 1) at p0
  change W.cell? _ = some (.slice a1 wd.length c1) at p1
  change W.cell? _ = some (.int .i64 s.kind) at p2
  change W.cell? _ = some (.int .i64 s.k) at p3
  change W.cell? _ = some (.int .i64 s.o) at p4
  change W.cell? _ = some (.int .i64 0) at p5
  change W.cell? _ = some (.slice none 0 0) at p6
  change W.cell? _ = some (.slice none 0 0) at p7
  clear k0 k1 k2 hlt
  go_wp2_with fail
  refine ht.mono ?_
  rintro e w1 ⟨rfl, hb1⟩
  obtain ⟨F, hF⟩ : ∃ F, fitR s wd out = F := ⟨_, rfl⟩
  have HF := hide hF
  rw [hF]
  clear hF
  go_wp2
  go_ret
  exact ⟨by rw [unhide HF]; rfl, bstep hbq hb1⟩

set_option maxRecDepth 100000 in
set_option maxHeartbeats 2000000 in
theorem ofNode_any (h : TM B w p s) {i : Nat} (hi : i < s.nn) (a : Option Addr) (c : Nat) (out : List Int) (hr : RdL .i64 w a out) (hl : out.length ≤ maxLen) (hc : out.length ≤ c) (hc2 : c ≤ maxLen) (hk : s.kind = 2 → 0 < (s.nd i).wd.length ∧ (s.nd i).wd.length ≤ out.length) :
    Calls Try.prog 46 #[.pointer (some ⟨p.b, 0, none⟩), .pointer (some ⟨p.ib i, 0, none⟩), .slice a out.length c] w fun e w' => ∃ a' c', e = .returned (.slice a' (ofR s (s.nd i).wd out).length c') ∧ RdL .i64 w a' (ofR s (s.nd i).wd out) ∧ w' = w := by
  have c0 := h.c0
  have n3 := h.n3 hi
  clear h
  generalize p.ib i = b at *
  unfold maxLen at hl hc2
  by_cases k : s.kind = 2
  · obtain ⟨k1, k2⟩ := hk k
    obtain ⟨g, off, rfl, hcell⟩ := hr.at (i := 0) (by omega)
    have hof : ofR s (s.nd i).wd out = out.drop (out.length - (s.nd i).wd.length) := by unfold ofR; rw [if_pos k]
    rw [hof]
    have HR : Hid (RdL .i64 w (some ⟨g, off + (out.length - (s.nd i).wd.length), none⟩) (out.drop (out.length - (s.nd i).wd.length))) := hide (.inr ⟨g, _, rfl, fun j hj => by
      rw [List.length_drop] at hj
      rw [Nat.add_assoc, hcell _ (by omega), List.getD_eq_getElem?_getD, List.getD_eq_getElem?_getD, List.getElem?_drop]⟩)
    have HL : Hid ((out.drop (out.length - (s.nd i).wd.length)).length = out.length - (out.length - (s.nd i).wd.length)) := hide (by rw [List.length_drop])
    rw [unhide HL]
    have tk : (s.kind == 2) = true := by simp [k]
    clear hk hcell hof k HL
    generalize out.drop (out.length - (s.nd i).wd.length) = D at *
    generalize hwn : (s.nd i).wd.length = n at *
    generalize hon : out.length = m at *
    go_enter Try.func46, Try.ntmps46
    go_wp2
    go_ret
    exact ⟨_, _, rfl, unhide HR, by trivial⟩
  · have hof : ofR s (s.nd i).wd out = out := by unfold ofR; rw [if_neg k]
    rw [hof]
    have tk : (s.kind == 2) = false := by simp [k]
    clear hk hof k
    go_enter Try.func46, Try.ntmps46
    go_wp2
    go_ret
    exact ⟨_, _, rfl, hr, by trivial⟩
end

end Go.Proofs.Ytlcablkhomnieaa
