/-
  The map of groups: of each group of states the first one.
-/
import Derived.Test.YtknefgdcnacfoaaUSiv
import Derived.Test.YtknefgdcnacfoaaK20
namespace Go.Proofs.Ytknefgdcnacfoaa
open Go.RowKit Go.Maps

theorem wideG : (match Try.prog.underlying 123 with | some (.array _ _) | some (.struct _) => true | _ => false) = true := by rw [Try.underlying123]
set_option maxRecDepth 100000 in
theorem keyedG : Keyed Try.prog 123 := Keyed.of_law (deep_law_laid laidD (m := 3) (by omega) (of_decide_eq_true (by kernel_rfl)) (by kernel_rfl) wideG)
theorem keyG {p : Int × Int} (h : FitP p) : ∃ kl, keyOf Try.prog 123 (pvl p) = some kl := by
  have hk : Try.prog.keyType 123 = true := by kernel_rfl
  have c1 : Try.prog.cellsOf 123 = 2 := by kernel_rfl
  have c2 : Try.prog.cellsOf 3 = 1 := by kernel_rfl
  have hsz : ∃ d, Try.prog.types.size + 1 = d + 1 + 1 := ⟨Try.prog.types.size - 1, by have : 2 ≤ Try.prog.types.size := of_decide_eq_true (by kernel_rfl); omega⟩
  obtain ⟨d, hd⟩ := hsz
  have hf : (pvl p).formed Try.prog 123 = true := by
    simp [pvl, Value.formed, Try.underlying123, c1]
  have w1 : (Lit.int .i64 p.1).wf = true := WalkArith.wf_i64 (by have := h.1; omega)
  have w2 : (Lit.int .i64 p.2).wf = true := WalkArith.wf_i64 (by have := h.2; omega)
  have k3 : ∃ ls, Try.prog.keyLits (d + 1 + 1) 123 [.int .i64 p.1, .int .i64 p.2] = some ls := by
    refine ⟨[.int .i64 p.1, .int .i64 p.2], ?_⟩
    unfold Program.keyLits
    simp only [Try.underlying123]
    simp [c1, c2, Program.keyLits, Try.underlying3, w1, w2]
  obtain ⟨ls, hls⟩ := k3
  refine ⟨.string (keyBytes ls), ?_⟩
  unfold pvl at hf ⊢
  unfold keyOf
  rw [Try.underlying123]
  simp only [hk, hf, Bool.and_self, if_true, hd, Value.cells, hls, Option.map_some]
noncomputable def kyG (p : Int × Int) : Lit := (keyOf Try.prog 123 (pvl p)).getD (.bool false)
theorem kyG_of {p : Int × Int} (h : FitP p) : keyOf Try.prog 123 (pvl p) = some (kyG p) := by
  obtain ⟨kl, e⟩ := keyG h
  unfold kyG; rw [e]; rfl
theorem kyG_inj {p q : Int × Int} (hp : FitP p) (hq : FitP q) (e : kyG p = kyG q) : p = q := by
  have h1 := kyG_of hp
  rw [e] at h1
  exact pvl_inj (keyedG.inj h1 (kyG_of hq))
set_option maxRecDepth 100000 in
theorem kyG_lit {p : Int × Int} (h : FitP p) : WideAt.IsKeyLit (kyG p) := keyedG.key (kyG_of h)

/-- The group of a state. -/
def grp (ls : Nat → Nat) (sd : Nat → Int) (t : Nat) : Int × Int := (((ls t : Nat) : Int), sd t)
def eqG (ls : Nat → Nat) (sd : Nat → Int) (t u : Nat) : Bool := decide (grp ls sd u = grp ls sd t)
/-- The first state of a state's group. -/
def fsG (ls : Nat → Nat) (sd : Nat → Int) (t : Nat) : Nat := (first (eqG ls sd t) (t + 1)).getD t
theorem fsG_part (n : Nat) (ls : Nat → Nat) (sd : Nat → Int) : PartOf n ls sd (fsG ls sd) := fun t ht => by
  unfold fsG
  rcases first_cases (eqG ls sd t) (t + 1) with ⟨_, h⟩ | ⟨i, e, hi, hp, hl⟩
  · have := h t (by omega)
    unfold eqG at this
    simp at this
  · rw [e]
    have hp := of_decide_eq_true hp
    have h1 : ((ls i : Nat) : Int) = (ls t : Nat) := congrArg Prod.fst hp
    have h2 : sd i = sd t := congrArg Prod.snd hp
    refine ⟨by show i ≤ t; omega, by show ls i = ls t; omega, h2, fun u _ e1 e2 => ?_⟩
    show i ≤ u
    refine Classical.byContradiction fun c => ?_
    have := hl u (by omega)
    have h3 : eqG ls sd t u = true := decide_eq_true (by unfold grp; rw [e1, e2])
    rw [h3] at this; cases this
theorem gf_skip {p : Nat → Bool} {n : Nat} (h : p n = false) : first p (n + 1) = first p n := by
  rcases first_cases p n with ⟨e, hl⟩ | ⟨i, e, hi, hp, hl⟩
  · rw [e]
    exact first_none fun j hj => by
      by_cases c : j = n
      · subst c; exact h
      · exact hl j (by omega)
  · rw [e]; exact first_some (by omega) hp hl
theorem gf_old {p : Nat → Bool} {n i : Nat} (h : first p n = some i) : first p (n + 1) = some i := by
  rcases first_cases p n with ⟨e, _⟩ | ⟨j, e, hi, hp, hl⟩
  · rw [h] at e; cases e
  · rw [h] at e; cases e
    exact first_some (by omega) hp hl
/-- What the map says behind the first j states. -/
structure GSay (n : Nat) (ls : Nat → Nat) (sd : Nat → Int) (j : Nat) (D : DataW Unit) : Prop where
  tidy : Tidy D
  sz : Maps.size D ≤ j
  al : Maps.size D = j → ∀ u, u < j → first (eqG ls sd u) u = none
  has : ∀ t, t < n → Maps.has D (kyG (grp ls sd t)) = (first (eqG ls sd t) j).isSome
  at_ : ∀ t, t < n → ∀ r, first (eqG ls sd t) j = some r → D.atKey (kyG (grp ls sd t)) (.lit (.int .i64 0)) = .lit (.int .i64 ((r : Nat) : Int))
section
variable {n j : Nat} {ls : Nat → Nat} {sd : Nat → Int} {D : DataW Unit}
theorem GSay.start : GSay n ls sd 0 (.map []) := ⟨tidy_empty, Nat.le_refl _, fun _ u hu => by omega, fun t _ => rfl, fun t _ r h => by cases h⟩
theorem GSay.old (h : GSay n ls sd j D) (hs : (first (eqG ls sd j) j).isSome = true) : GSay n ls sd (j + 1) D := by
  obtain ⟨r0, hr0⟩ := Option.isSome_iff_exists.1 hs
  have E : ∀ t, t < n → first (eqG ls sd t) (j + 1) = first (eqG ls sd t) j := fun t ht => by
    cases c : eqG ls sd t j
    · exact gf_skip c
    · rcases first_cases (eqG ls sd t) j with ⟨_, hl⟩ | ⟨i, e, _⟩
      · exfalso
        have c2 := of_decide_eq_true c
        rcases first_cases (eqG ls sd j) j with ⟨e, _⟩ | ⟨i, e, hi, hp, _⟩
        · rw [hr0] at e; cases e
        · have hp := of_decide_eq_true hp
          have h3 : eqG ls sd t i = true := decide_eq_true (hp.trans c2)
          rw [hl i hi] at h3; cases h3
      · rw [e]; exact gf_old e
  exact ⟨h.tidy, by have := h.sz; omega, fun e => by have := h.sz; omega, fun t ht => by rw [E t ht]; exact h.has t ht, fun t ht r hr => by rw [E t ht] at hr; exact h.at_ t ht r hr⟩
set_option maxRecDepth 100000 in
theorem GSay.new (h : GSay n ls sd j D) (hj : j < n) (hf : ∀ t, t < n → FitP (grp ls sd t)) (hs : first (eqG ls sd j) j = none) : GSay n ls sd (j + 1) (D.put (kyG (grp ls sd j)) (.lit (.int .i64 ((j : Nat) : Int)))) := by
  have hl := kyG_lit (hf j hj)
  have hno : Maps.has D (kyG (grp ls sd j)) = false := by rw [h.has j hj, hs]; rfl
  have hz : Maps.size (D.put (kyG (grp ls sd j)) (.lit (.int .i64 ((j : Nat) : Int)))) = Maps.size D + 1 := by rw [size_put h.tidy, hno]; rfl
  have nh : ∀ u, u < j → eqG ls sd j u = false := by
    rcases first_cases (eqG ls sd j) j with ⟨_, hl⟩ | ⟨i, e, _⟩
    · exact hl
    · rw [hs] at e; cases e
  have K : ∀ t, t < n → eqG ls sd t j = true → kyG (grp ls sd t) = kyG (grp ls sd j) ∧ first (eqG ls sd t) (j + 1) = some j := fun t _ c => by
    have c2 := of_decide_eq_true c
    refine ⟨by rw [c2], first_some (by omega) c fun u hu => ?_⟩
    cases d : eqG ls sd t u
    · rfl
    · have d2 := of_decide_eq_true d
      have h3 : eqG ls sd j u = true := decide_eq_true (d2.trans c2.symm)
      rw [nh u hu] at h3; cases h3
  have K2 : ∀ t, t < n → eqG ls sd t j = false → kyG (grp ls sd t) ≠ kyG (grp ls sd j) := fun t ht c e => by
    have := kyG_inj (hf t ht) (hf j hj) e
    have h3 : eqG ls sd t j = true := decide_eq_true this.symm
    rw [h3] at c; cases c
  refine ⟨h.tidy.put hl _, by rw [hz]; have := h.sz; omega, fun e u hu => ?_, fun t ht => ?_, fun t ht r hr => ?_⟩
  · rw [hz] at e
    by_cases c : u = j
    · subst c; exact hs
    · exact h.al (by omega) u (by omega)
  · cases c : eqG ls sd t j
    · rw [has_put_other (K2 t ht c), gf_skip c]; exact h.has t ht
    · rw [(K t ht c).1, (K t ht c).2, has_put_same h.tidy.isMap hl]; rfl
  · cases c : eqG ls sd t j
    · rw [gf_skip c] at hr
      rw [atKey_put_other (K2 t ht c)]; exact h.at_ t ht r hr
    · rw [(K t ht c).2] at hr
      cases hr
      rw [(K t ht c).1, atKey_put_same h.tidy.isMap hl]
end
/-- The map in memory. -/
def GMap (w : World) (b n : Nat) (ls : Nat → Nat) (sd : Nat → Int) (j : Nat) : Prop := ∃ D : DataW Unit, w.ownsMap Try.prog 123 (plainElem Try.prog 3) b j D ∧ GSay n ls sd j D
section
variable {w w' : World} {b n j : Nat} {ls : Nat → Nat} {sd : Nat → Int}
theorem GMap.keep (h : GMap w b n ls sd j) (e : w'.heap[b]? = w.heap[b]?) : GMap w' b n ls sd j := by
  obtain ⟨D, ⟨es, clock, hb, F, hs, hD⟩, hsay⟩ := h
  exact ⟨D, ⟨es, clock, e.trans hb, F, hs, hD⟩, hsay⟩
theorem GMap.lt (h : GMap w b n ls sd j) : b < w.heap.size := by
  obtain ⟨D, ho, _⟩ := h
  exact ho.lt
theorem GMap.start (w : World) (n : Nat) (ls : Nat → Nat) (sd : Nat → Int) : GMap (w.alloc (.map #[] 0)) w.heap.size n ls sd 0 := ⟨.map [], World.ownsMap_made w Try.prog _ _, GSay.start⟩
theorem GMap.look (h : GMap w b n ls sd j) {t : Nat} (ht : t < n) (hf : FitP (grp ls sd t)) : ∃ c : Int, (Instr.lookup 121 (.map (some b)) (pvl (grp ls sd t)) true).run Try.prog w = .ok (.tuple #[.int .i64 c, .bool (first (eqG ls sd t) j).isSome]) w := by
  obtain ⟨D, ho, hs⟩ := h
  obtain ⟨v, ps, hrun, hv⟩ := ho.look_ok keyedG Try.underlying121 (zeroInt w) (plainElem_int Try.underlying3 (by decide)) (kyG_of hf)
  obtain ⟨c, rfl, _, _⟩ := plainElem_int_inv Try.underlying3 hv
  rw [hs.has t ht] at hrun
  exact ⟨c, hrun⟩
theorem GMap.get (h : GMap w b n ls sd j) {t r : Nat} (ht : t < n) (hf : FitP (grp ls sd t)) (hr : first (eqG ls sd t) j = some r) : (Instr.lookup 121 (.map (some b)) (pvl (grp ls sd t)) false).run Try.prog w = .ok (.int .i64 ((r : Nat) : Int)) w := by
  obtain ⟨D, ho, hs⟩ := h
  obtain ⟨c, hrun, hat, _⟩ := ho.lookup_int keyedG Try.underlying121 Try.underlying3 (zeroInt w) (kyG_of hf)
  rw [hs.at_ t ht r hr] at hat
  cases hat
  exact hrun
theorem GMap.put (h : GMap w b n ls sd j) (hj : j < n) (hn : n ≤ 1048576) (hf : ∀ t, t < n → FitP (grp ls sd t)) (hs : first (eqG ls sd j) j = none) :
    ∃ w', (Instr.mapUpdate 121 (.map (some b)) (pvl (grp ls sd j)) (.int .i64 ((j : Nat) : Int))).run Try.prog w = .ok () w' ∧ GMap w' b n ls sd (j + 1) ∧ w.grownBy w' (some b) := by
  obtain ⟨D, ho, hsay⟩ := h
  obtain ⟨w1, hrun, hm1, hg1⟩ := ho.update keyedG Try.underlying121 (by unfold maxLen; omega) (kyG_of (hf j hj)) (plainElem_int Try.underlying3 (WalkArith.wf_i64 (n := ((j : Nat) : Int)) (by omega)))
  exact ⟨w1, hrun, ⟨_, hm1, hsay.new hj hf hs⟩, hg1⟩
theorem GMap.old (h : GMap w b n ls sd j) (hs : (first (eqG ls sd j) j).isSome = true) : GMap w b n ls sd (j + 1) := by
  obtain ⟨D, ho, hsay⟩ := h
  exact ⟨D, ho.mono (by omega), hsay.old hs⟩
theorem GMap.len (h : GMap w b n ls sd j) (ty : TypeId) : ∃ c : Nat, (Builtin.len_ #[121] ty #[.map (some b)]).run Try.prog w = .ok (.int .i64 (c : Int)) w ∧ c ≤ j ∧ (c = j → ∀ u, u < j → first (eqG ls sd u) u = none) := by
  obtain ⟨D, ho, hsay⟩ := h
  exact ⟨Maps.size D, ho.len Try.underlying121 ty, hsay.sz, hsay.al⟩
end
end Go.Proofs.Ytknefgdcnacfoaa
