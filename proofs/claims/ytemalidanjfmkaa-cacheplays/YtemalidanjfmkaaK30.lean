/-
  Some texts of this seat, one behind the other.
-/
import Derived.Deep.RegionLaw
import Derived.Test.YtemalidanjfmkaaCheck
import Derived.Test.YtemalidanjfmkaaGPush
import Derived.Test.YtemalidanjfmkaaK1
import Derived.Test.YtemalidanjfmkaaK19
import Derived.Test.YtemalidanjfmkaaK27
import Derived.Test.YtemalidanjfmkaaK29
import Derived.Test.YtemalidanjfmkaaK3
import Derived.Test.YtemalidanjfmkaaK32
import Derived.Test.YtemalidanjfmkaaK7
/-
  The program's row of entries in memory; how it finds a child.
-/
namespace Go.Proofs.Ytemalidanjfmkaa
open Go.RowKit

def enL (e : En) : List Value := [.int .i64 (e.p : Int), .int .i64 e.s, .int .i64 (e.c : Int), .int .i64 (e.n : Int), .bool e.kn, .int .i64 e.la]
theorem enL_len (e : En) : (enL e).length = 6 := rfl
theorem eEnt : EltG 87 63 (.agg #[.int .i64 0, .int .i64 0, .int .i64 0, .int .i64 0, .bool false, .int .i64 0]) 6 48 enL := ⟨Try.underlying63, by kernel_rfl, rfl, by decide, enL_len, fun x u hu => by
  simp [enL] at hu
  rcases hu with rfl | rfl | rfl | rfl | rfl | rfl <;> rfl⟩
/-- A row reads so. -/
def RdR (w : World) (g : Nat) (R : List En) : Prop := ∀ i, i < R.length → ∀ j, j < 6 → w.cell? ⟨g, i * 6 + j, none⟩ = (enL (ea R i))[j]?
theorem RdR.below {w w' : World} {g : Nat} {R : List En} (h : RdR w g R) (hb : Below w.heap.size w w') : RdR w' g R := fun i hi j hj => by
  have h0 := h i hi j hj
  rw [List.getElem?_eq_getElem (by rw [enL_len]; exact hj)] at h0 ⊢
  exact (hb.cell (World.block_lt_of_cell? w _ h0)).trans h0
section
variable {w : World} {g : Nat} {R : List En} (h : RdR w g R) {i : Nat} (hi : i < R.length)
include h hi
theorem RdR.p : w.cell? ⟨g, i * 6, none⟩ = some (.int .i64 ((ea R i).p : Int)) := h i hi 0 (by omega)
theorem RdR.s : w.cell? ⟨g, i * 6 + 1, none⟩ = some (.int .i64 (ea R i).s) := h i hi 1 (by omega)
theorem RdR.c : w.cell? ⟨g, i * 6 + 2, none⟩ = some (.int .i64 ((ea R i).c : Int)) := h i hi 2 (by omega)
theorem RdR.n : w.cell? ⟨g, i * 6 + 3, none⟩ = some (.int .i64 ((ea R i).n : Int)) := h i hi 3 (by omega)
theorem RdR.kn : w.cell? ⟨g, i * 6 + 4, none⟩ = some (.bool (ea R i).kn) := h i hi 4 (by omega)
theorem RdR.la : w.cell? ⟨g, i * 6 + 5, none⟩ = some (.int .i64 (ea R i).la) := h i hi 5 (by omega)
end

set_option maxRecDepth 100000 in
set_option maxHeartbeats 2000000 in
theorem around_any (R : List En) (bg : List (List Int)) (g cap a : Nat) (x : Int) (w : World) (T : Tr R bg) (hr : RdR w g R) (ha : a < R.length) :
    Calls Try.prog 63 #[.slice (some ⟨g, 0, none⟩) R.length cap, .int .i64 a, .int .i64 x] w fun e w' => ∃ bf bh : Nat, e = .returned (.tuple #[.int .i64 bf, .int .i64 bh]) ∧ Goi R a x bf bh ∧ Fst R a (x - 1) bh ∧ Below w.heap.size w w' := by
  have HR := hide hr
  have HT := hide T
  have hc := hr.c ha
  have ha' : (a : Int) < (R.length : Int) := by omega
  clear hr T
  go_enter Try.func63, Try.ntmps63
  go_wp2
  go_quiet (fail)
  go_wp2
  go_loopw [6, 7] (fun u v wr => ∃ bf bh : Nat, u = .int .i64 bf ∧ v = .int .i64 bh ∧ Hid (Goi R a x bf bh) ∧ Below w.heap.size w wr) (fun _ v _ => msr R (intOf v).toNat)
  case atStart => exact ⟨0, _, rfl, rfl, hide (.inl ⟨rfl, rfl⟩), below_drewN (Below.refl _ _) _⟩
  case round =>
    obtain ⟨bf, bh, rfl, rfl, HG, hB⟩ := hrel
    have hbl := ((unhide HG).bh (unhide HT) ha).1
    have hbl' : (bh : Int) < (R.length : Int) := by omega
    by_cases h0 : bh = 0
    · have HF := hide ((unhide HG).end (unhide HT) ha (.inl h0))
      have t0 : ((bh : Int) != 0) = false := by simp [h0]
      clear hc
      go_wp2
      go_ret2
      exact ⟨bf, bh, rfl, unhide HG, unhide HF, hB⟩
    · have t0 : ((bh : Int) != 0) = true := by simp [h0]
      have r := (unhide HR).below hB
      have c1 := r.s hbl
      have c2 := r.n hbl
      by_cases hx : (ea R bh).s < x
      · have HN := hide ((unhide HG).next (unhide HT) ha h0 hx)
        have HM := hide ((unhide HT).msr_lt ha (unhide HG) h0)
        clear hc r h0
        go_wp2
        go_quiet (fail)
        go_wp2
        go_roundw
        case rel => exact ⟨bh, _, rfl, rfl, HN, below_drewN hB _⟩
        case measure => exact unhide HM
      · have HF := hide ((unhide HG).end (unhide HT) ha (.inr (by omega)))
        clear hc r h0 c2
        go_wp2
        go_ret2
        exact ⟨bf, bh, rfl, unhide HG, unhide HF, hB⟩

/-- The place of the word at a with x behind it; or none. -/
def Cby (R : List En) (bg : List (List Int)) (a : Nat) (x : Int) (y : Nat) : Prop := (y ≠ 0 ∧ y < R.length ∧ wa bg y = wa bg a ++ [x]) ∨ (y = 0 ∧ wa bg a ++ [x] ∉ bg)
set_option maxRecDepth 100000 in
set_option maxHeartbeats 2000000 in
theorem childBy_any (R : List En) (bg : List (List Int)) (g cap a : Nat) (x : Int) (w : World) (T : Tr R bg) (hr : RdR w g R) (ha : a < R.length) :
    Calls Try.prog 56 #[.slice (some ⟨g, 0, none⟩) R.length cap, .int .i64 a, .int .i64 x] w fun e w' => ∃ y : Nat, e = .returned (.int .i64 y) ∧ Cby R bg a x y ∧ Below w.heap.size w w' := by
  have hA := around_any R bg g cap a x w T hr ha
  have HR := hide hr
  have HT := hide T
  clear hr T
  go_enter Try.func56, Try.ntmps56
  go_wp2_with fail
  refine hA.mono ?_
  rintro e w1 ⟨bf, bh, rfl, hg, hf, hb1⟩
  have hbl := hf.lt (unhide HT).pos
  have hbl' : (bh : Int) < (R.length : Int) := by omega
  have c1 := ((unhide HR).below hb1).s hbl
  have hby := Fst.by (unhide HT) hf
  by_cases h0 : bh = 0
  · have t0 : ((bh : Int) != 0) = false := by simp [h0]
    have HY : Hid (Cby R bg a x bh) := .inr ⟨h0, by
      rcases hby with ⟨h, -⟩ | ⟨-, h⟩
      · exact absurd h0 h
      · exact h ha⟩
    clear hg hf hby h0 c1
    go_wp2
    go_ret
    exact ⟨bh, rfl, unhide HY, hb1⟩
  · have t0 : ((bh : Int) != 0) = true := by simp [h0]
    by_cases hx : (ea R bh).s = x
    · have t1 : ((ea R bh).s != x) = false := by simp [hx]
      have HY : Hid (Cby R bg a x bh) := .inl (by
        rcases hby with ⟨h1, h2, h3, h4⟩ | ⟨h, -⟩
        · exact ⟨h1, h3, h4⟩
        · rcases h with h | h
          · exact absurd h h0
          · exact absurd hx h)
      clear hg hf hby h0 hx
      go_wp2
      go_ret
      exact ⟨bh, rfl, unhide HY, hb1⟩
    · have t1 : ((ea R bh).s != x) = true := by simp [hx]
      have HY : Hid (Cby R bg a x 0) := .inr ⟨rfl, by
        rcases hby with ⟨-, h, -⟩ | ⟨-, h⟩
        · exact absurd h hx
        · exact h ha⟩
      clear hg hf hby h0 hx
      go_wp2
      go_ret
      exact ⟨0, rfl, unhide HY, hb1⟩

end Go.Proofs.Ytemalidanjfmkaa

/-
  The program's walk along a row: the places of a word's beginnings; whether something is kept of it.
-/
namespace Go.Proofs.Ytemalidanjfmkaa
open Go.RowKit

/-- Places as numbers. -/
def ni (P : List Nat) : List Int := P.map fun (x : Nat) => (x : Int)
theorem ni_len (P : List Nat) : (ni P).length = P.length := by simp [ni]
theorem ni_at (P : List Nat) (j : Nat) : (ni P).getD j 0 = ((P.getD j 0 : Nat) : Int) := by
  unfold ni
  rw [List.getD_eq_getElem?_getD, List.getElem?_map, List.getD_eq_getElem?_getD]
  cases P[j]? <;> rfl
theorem ni_snoc (P : List Nat) (y : Nat) : ni (P ++ [y]) = ni P ++ [(y : Int)] := by simp [ni]
/-- What walk leaves. -/
def WkPost (bg : List (List Int)) (wd : List Int) (w : World) (e : Ending) (w' : World) : Prop :=
  ∃ v P, e = .returned v ∧ PthE bg wd P ∧ OwnL .i64 3 w' w.heap.size v (ni P) ∧ Below w.heap.size w w'

set_option maxRecDepth 100000 in
set_option maxHeartbeats 2000000 in
theorem walk_any (R : List En) (c : Cs) (g cap : Nat) (a3 : Option Addr) (c3 : Nat) (wd : List Int) (w : World) (T : Tr R c.bg) (hr : RdR w g R) (hw : RdL .i64 w a3 wd) (hl : wd.length ≤ 1000000000) :
    Calls Try.prog 39 #[.slice (some ⟨g, 0, none⟩) R.length cap, .slice a3 wd.length c3] w fun e w' => WkPost c.bg wd w e w' := by
  have HR := hide hr
  have HT := hide T
  have HW := hide hw
  clear hr T hw
  go_enter Try.func39, Try.ntmps39
  go_wp2
  go_loopw [5, 6, 12] (fun v u i wr => ∃ (j : Nat) (P : List Nat), i = .int .i64 j ∧ u = .int .i64 (P.getD j 0 : Nat) ∧ j ≤ wd.length ∧ Hid (P.length = j + 1) ∧ Hid (Pth c.bg wd P) ∧ Hid (OwnL .i64 3 wr w.heap.size v (ni P)) ∧ Below w.heap.size w wr) (fun _ _ i _ => wd.length - (intOf i).toNat)
  case atStart => exact ⟨0, [0], rfl, rfl, Nat.zero_le _, hide rfl, hide (Pth.start (unhide HT) wd), hide (OwnL.lit w w.heap.size [0] _ (Nat.le_refl _) (by unfold maxLen; simp) rfl), ballo _ _⟩
  case round =>
    obtain ⟨j, P, rfl, rfl, hj, HL, HP, HO, hB⟩ := hrel
    by_cases hlt : j < wd.length
    · have hlt' : (j : Int) < (wd.length : Int) := by omega
      obtain ⟨b, off, rfl, hc⟩ := ((unhide HW).below hB).at hlt
      have c0 := hc j hlt
      have hpa := (unhide HP).at' j (by have := unhide HL; omega)
      have hpl : P.getD j 0 < R.length := by rw [(unhide HT).len]; exact hpa.1
      have hcb := childBy_any R c.bg g cap (P.getD j 0) (wd.getD j 0) wr (unhide HT) ((unhide HR).below hB) hpl
      have HE := hide (show wa c.bg (P.getD j 0) ++ [wd.getD j 0] = wd.take (j + 1) by rw [hpa.2, take_next hlt])
      have HPW := hide (show (P.getD j 0 : Nat) = P.getD j 0 from rfl)
      generalize P.getD j 0 = A at *
      generalize wd.getD j 0 = X at *
      clear hc hpa hpl
      go_wp2_with fail
      refine hcb.mono ?_
      rintro e w1 ⟨y, rfl, hy, hb1⟩
      have hB1 := bstep hB hb1
      clear c0 hcb
      by_cases h0 : y = 0
      · have t0 : ((y : Int) == 0) = true := by simp [h0]
        have HPE : Hid (PthE c.bg wd P) := ⟨unhide HP, fun _ => by
          rw [unhide HL, ← unhide HE]
          rcases hy with ⟨h, -⟩ | ⟨-, h⟩
          · exact absurd h0 h
          · exact h⟩
        have HO1 := hide ((unhide HO).grown hb1)
        clear hy h0
        go_wp2
        go_ret
        exact ⟨_, P, rfl, unhide HPE, unhide HO1, hB1⟩
      · have t0 : ((y : Int) == 0) = false := by simp [h0]
        have HPS : Hid (Pth c.bg wd (P ++ [y])) := (unhide HP).snoc (by rw [unhide HL]; omega) (by
            rcases hy with ⟨-, h, -⟩ | ⟨h, -⟩
            · rw [← (unhide HT).len]; exact h
            · exact absurd h h0) (by
            rw [unhide HL, ← unhide HE]
            rcases hy with ⟨-, -, h⟩ | ⟨h, -⟩
            · exact h
            · exact absurd h h0)
        have HO1 := hide ((unhide HO).grown hb1)
        have HB1 := hide hB1
        clear hy h0
        have hpl : (ni P).length = j + 1 := by rw [ni_len]; exact unhide HL
        go_wp2_with (at_builtin; refine wpl_pushL eInt rfl (.tmp 22) (.tmp 24) rfl w.heap.size _ (ni P) rfl (OwnL.alloc (unhide HO1) _) (some ⟨w1.heap.size, 0, none⟩) 1 [(y : Int)] rfl (RdL.one _ _) (fun e => by cases e) (by rw [hpl]; simp only [List.length_cons, List.length_nil]; omega) (by have := hB1.size; simp; omega) ?_; intro v8 w8 ho8 hb8 hg8)
        go_wp2
        go_roundw
        case rel =>
          refine ⟨j + 1, P ++ [y], by go_num, ?_, by omega, hide (by simp [unhide HL]), HPS, hide (by rw [ni_snoc]; exact ho8), (balloc (unhide HB1) _).trans hb8⟩
          rw [← unhide HL, gdn_new]
        case measure => simp [intOf]; omega
    · obtain rfl : j = wd.length := by omega
      have HPE : Hid (PthE c.bg wd P) := ⟨unhide HP, fun h => by have := unhide HL; omega⟩
      go_wp2
      go_ret
      exact ⟨_, P, rfl, unhide HPE, unhide HO, hB⟩

/-- What find leaves. -/
def FiPost (c : Cs) (wd : List Int) (w : World) (e : Ending) (w' : World) : Prop :=
  Below w.heap.size w w' ∧ ((findV c wd = none ∧ e = .returned (.tuple #[.slice none 0 0, .bool false])) ∨ ∃ v P y, findV c wd = some y ∧ e = .returned (.tuple #[v, .bool true]) ∧ PthE c.bg wd P ∧ OwnL .i64 3 w' w.heap.size v (ni P))

set_option maxRecDepth 100000 in
set_option maxHeartbeats 2000000 in
theorem find_any (R : List En) (c : Cs) (g cap : Nat) (a3 : Option Addr) (c3 : Nat) (wd : List Int) (w : World) (I : Ri c R) (hr : RdR w g R) (hw : RdL .i64 w a3 wd) (hl : wd.length ≤ 1000000000) :
    Calls Try.prog 45 #[.slice (some ⟨g, 0, none⟩) R.length cap, .slice a3 wd.length c3] w fun e w' => FiPost c wd w e w' := by
  have hwk := walk_any R c g cap a3 c3 wd w I.tr hr hw hl
  have HR := hide hr
  have HI := hide I
  clear hr I hw
  go_enter Try.func45, Try.ntmps45
  go_wp2_with fail
  refine hwk.mono ?_
  rintro e w1 ⟨v, P, rfl, hp, ho, hb1⟩
  have HP := hide hp
  have HO := hide ho
  have hf := (unhide HI).find hp
  obtain ⟨av, cv, rfl, -, -, -, hrd, -⟩ := ho.shape
  rw [ni_len]
  clear hwk
  by_cases hle : P.length ≤ wd.length
  · have hle' : (P.length : Int) ≤ (wd.length : Int) := by omega
    have HF := hide (hf.1 hle)
    clear hf hp ho hrd
    go_wp2
    go_ret2
    exact ⟨hb1, .inl ⟨unhide HF, rfl⟩⟩
  · have hle' : ¬ (P.length : Int) ≤ (wd.length : Int) := by omega
    have hle2 : (wd.length : Int) < (P.length : Int) := by omega
    have hk := hf.2 (by omega)
    obtain ⟨b, off, rfl, hc⟩ := hrd.at (i := wd.length) (by rw [ni_len]; omega)
    have c0 := hc wd.length (by rw [ni_len]; omega)
    rw [ni_at] at c0
    have hpa := hp.1.at' wd.length (by omega)
    have hpl : P.getD wd.length 0 < R.length := by rw [(unhide HI).tr.len]; exact hpa.1
    have hpl' : ((P.getD wd.length 0 : Nat) : Int) < (R.length : Int) := by omega
    have c1 := ((unhide HR).below hb1).kn hpl
    rw [hk] at c1
    generalize P.getD wd.length 0 = A at *
    clear hf hp ho hrd hc hk hpa hpl
    cases hfv : findV c wd with
    | none =>
      rw [hfv] at c1
      have HF := hide hfv
      clear hfv
      change w1.cell? _ = some (.bool false) at c1
      go_wp2
      go_ret2
      exact ⟨hb1, .inl ⟨unhide HF, rfl⟩⟩
    | some y =>
      rw [hfv] at c1
      have HF := hide hfv
      clear hfv
      change w1.cell? _ = some (.bool true) at c1
      go_wp2
      go_ret2
      refine ⟨hb1, .inr ⟨_, P, y, unhide HF, rfl, unhide HP, ?_⟩⟩
      have := unhide HO
      rwa [ni_len] at this

end Go.Proofs.Ytemalidanjfmkaa

/-
  The program's cache in memory: its seven cells, its row; what may be asked of it without a look into the row.
-/
namespace Go.Proofs.Ytemalidanjfmkaa
open Go.RowKit

theorem Bk.frz {w : World} {k : Nat} {cs : List Value} {t : TypeId} (h : Bk w k cs t) (i : Nat) : w.frozen? ⟨k, i, none⟩ = false := by
  simp [World.frozen?, show w.heap[k]? = _ from h]
theorem Bk.set {w : World} {k : Nat} {cs : List Value} {t : TypeId} (h : Bk w k cs t) (i : Nat) (u : Value) : Bk (w.setCell ⟨k, i, none⟩ u) k (cs.set i u) t := by
  have h' : w.heap[k]? = some (.cells cs.toArray t (0, 0)) := h
  show (w.setCell ⟨k, i, none⟩ u).heap[k]? = _
  simp [World.setCell, Array.getElem?_modify, h']
theorem Bk.keep {w w' : World} {k : Nat} {cs : List Value} {t : TypeId} (h : Bk w k cs t) (e : w'.heap[k]? = w.heap[k]?) : Bk w' k cs t := e.trans h

/-! ### Slices of structs: one cell, two cells turned -/
theorem flat_set {k : Nat} : ∀ (LL : List (List Value)) (s i : Nat) (u : Value), (∀ r ∈ LL, r.length = k) → s < LL.length → i < k → (LL.set s ((LL.getD s []).set i u)).flatten = LL.flatten.set (s * k + i) u
  | [], s, i, u, _, hs, _ => by simp at hs
  | r :: LL, 0, i, u, hk, _, hi => by
    have := hk r (by simp)
    simp [this, hi]
  | r :: LL, s + 1, i, u, hk, hs, hi => by
    have h1 := hk r (by simp)
    have h2 := flat_set LL s i u (fun q hq => hk q (by simp [hq])) (by simpa using hs) hi
    have e : (s + 1) * k + i = k + (s * k + i) := by rw [Nat.add_mul]; omega
    rw [List.set_cons_succ, List.flatten_cons, List.flatten_cons, List.set_append, h1, if_neg (by omega), e, Nat.add_sub_cancel_left, ← h2]
    rfl
section
variable {α : Type} {e : TypeId} {k : Nat} {enc : α → List Value} {w w' : World} {B g cap : Nat} {L : List α}
theorem fm_map (L : List α) : L.flatMap enc = (L.map enc).flatten := by simp [List.flatMap]
theorem map_at (d : α) {s : Nat} (hs : s < L.length) : (L.map enc).getD s [] = enc (L.getD s d) := by simp [hs]
theorem OwnG.set1 (hk : ∀ x, (enc x).length = k) (d : α) (h : OwnG e k enc w B (.slice (some ⟨g, 0, none⟩) L.length cap) L) {s i : Nat} (hs : s < L.length) (hi : i < k) (u : Value) (y : α) (hy : enc y = (enc (L.getD s d)).set i u) :
    OwnG e k enc (w.setCell ⟨g, s * k + i, none⟩ u) B (.slice (some ⟨g, 0, none⟩) L.length cap) (L.set s y) := by
  have h1 := (World.ownsRow.stored h (s * k + i) u).1
  unfold OwnG
  rw [List.length_set, fm_map, List.map_set, hy, ← map_at (enc := enc) d hs, flat_set _ _ _ _ (fun r hr => by obtain ⟨x, -, rfl⟩ := List.mem_map.1 hr; exact hk x) (by simpa using hs) hi, ← fm_map]
  exact h1
theorem OwnG.set2 (hk : ∀ x, (enc x).length = k) (d : α) (h : OwnG e k enc w B (.slice (some ⟨g, 0, none⟩) L.length cap) L) {s i j : Nat} (hs : s < L.length) (hi : i < k) (hj : j < k) (u v : Value) (y : α) (hy : enc y = ((enc (L.getD s d)).set i u).set j v) :
    OwnG e k enc ((w.setCell ⟨g, s * k + i, none⟩ u).setCell ⟨g, s * k + j, none⟩ v) B (.slice (some ⟨g, 0, none⟩) L.length cap) (L.set s y) := by
  have h1 := (World.ownsRow.stored (World.ownsRow.stored h (s * k + i) u).1 (s * k + j) v).1
  have hkk : ∀ r ∈ L.map enc, r.length = k := fun r hr => by obtain ⟨x, -, rfl⟩ := List.mem_map.1 hr; exact hk x
  have hs' : s < (L.map enc).length := by simpa using hs
  have e1 := flat_set (L.map enc) s i u hkk hs' hi
  have e2 := flat_set ((L.map enc).set s (((L.map enc).getD s []).set i u)) s j v (fun r hr => by
      rcases List.mem_or_eq_of_mem_set hr with h | h
      · exact hkk r h
      · subst h; rw [List.length_set, map_at (enc := enc) d hs]; exact hk _) (by simpa using hs) hj
  rw [e1] at e2
  have e3 : ((L.map enc).set s (((L.map enc).getD s []).set i u)).getD s [] = ((L.map enc).getD s []).set i u := by simp [hs]
  rw [e3, List.set_set, map_at (enc := enc) d hs, ← hy, ← List.map_set, ← fm_map, ← fm_map] at e2
  unfold OwnG
  rw [List.length_set, e2]
  exact h1
end
section
variable {α : Type} {e : TypeId} {k : Nat} {enc : α → List Value} {w : World} {ops : Array Oper} {rest : List Oper} {o : Oper} {a : Act} {Q : Exit → Act → World → Prop}
theorem fm_rep (x : α) : ∀ n : Nat, ((List.replicate n x).flatMap enc).length = n * (enc x).length
  | 0 => by simp
  | n + 1 => by rw [List.replicate_succ, List.flatMap_cons, List.length_append, fm_rep x n, Nat.add_mul]; omega
/-- make([]T, n). -/
theorem wplG_make {st : TypeId} {z : Value} {b : Nat} (E : EltG e st z k b enc) (x : α) (hz : z.cells.toList = enc x) (hgd : o.guard = none) (l c : Operand) (ho : o.op = Op.makeSlice st l c) (B : Nat) (L C : Int) (n : Nat)
    (hl : a.eval l = .int .i64 L) (hc : a.eval c = .int .i64 C) (hL : L = (n : Int)) (hC : C = (n : Int)) (hb : b * n ≤ 281474976710656) (hn : n ≤ maxLen) (hbase : B ≤ w.heap.size)
    (h : ∀ w', OwnG e k enc w' B (.slice (some ⟨w.heap.size, 0, none⟩) n n) (List.replicate n x) → Below w.heap.size w w' → wpList Try.prog ops Q rest (a.put o.dst (.slice (some ⟨w.heap.size, 0, none⟩) n n)) w') :
    wpList Try.prog ops Q (o :: rest) a w := by
  obtain ⟨i, hi, hz0, hz1, hz2⟩ := info_parts E.info
  refine wpList_make_full w hgd l c st ho B e i z k E.und hi hz0 hz1 .i64 .i64 L C n hl hc hL hC (by rw [hz2]; exact hb) hn hbase ?_
  intro w' h1 h2
  refine h w' ?_ ((Below.refl _ w).grown h2 (Nat.le_refl _) fun k hk => by cases hk)
  unfold OwnG
  have q : (madeCells z.cells (n * k)).toList = (List.replicate n x).flatMap enc := by
    have hsz := E.zs
    have hxl := E.len x
    refine List.ext_getElem? fun j => ?_
    by_cases hj : j < n * k
    · have hk := E.pos
      have ht : j / k < n := by rw [Nat.div_lt_iff_lt_mul hk]; exact hj
      have hm : j % k < k := Nat.mod_lt _ hk
      have ej : j = j / k * k + j % k := by rw [Nat.mul_comm]; exact (Nat.div_add_mod j k).symm
      have e1 : ((List.replicate n x).flatMap enc)[j]? = (enc x)[j % k]? := by
        conv => lhs; rw [ej]
        rw [fm_get E.len x (List.replicate n x) (j / k) (j % k) (by simpa using ht) hm]
        simp [ht]
      rw [e1]
      have h4 : (enc x)[j % k]? = some (z.cells[j % k]!) := by
        rw [← hz, getElem!_def, Array.getElem?_toList, Array.getElem?_eq_getElem (by omega)]
      rw [h4]
      simp only [madeCells, Array.toList_map, Array.toList_range, List.getElem?_map, List.getElem?_range hj, Option.map_some, hsz]
    · rw [List.getElem?_eq_none (by rw [Array.length_toList, size_madeCells]; omega), List.getElem?_eq_none (by rw [fm_rep, hxl]; omega)]
  rw [List.length_replicate, ← q]; exact h1
end

/-! ### The object -/
def coC (c : Cs) (n g cap : Nat) : List Value := [.int .i64 c.kind, .int .i64 c.k, .int .i64 c.o, .int .i64 c.most, .slice (some ⟨g, 0, none⟩) n cap, .int .i64 c.hits, .int .i64 c.miss]
/-- The cache at block b, its row at block g. -/
structure Co (B : Nat) (w : World) (b g cap : Nat) (c : Cs) (R : List En) : Prop where
  o : Bk w b (coC c R.length g cap) 65
  r : OwnG 87 6 enL w B (.slice (some ⟨g, 0, none⟩) R.length cap) R
  i : Ri c R
  ne : b ≠ g
  bB : B ≤ b
section
variable {B : Nat} {w w' : World} {b g cap : Nat} {c : Cs} {R : List En}
theorem Co.keep (h : Co B w b g cap c R) (e1 : w'.heap[b]? = w.heap[b]?) (e2 : w'.heap[g]? = w.heap[g]?) : Co B w' b g cap c R :=
  ⟨h.o.keep e1, h.r.keep fun k ek => by cases ek; exact e2, h.i, h.ne, h.bB⟩
theorem Co.glt (h : Co B w b g cap c R) : B ≤ g ∧ g < w.heap.size := h.r.lt rfl
theorem Co.blt (h : Co B w b g cap c R) : b < w.heap.size := h.o.lt
theorem Co.below (h : Co B w b g cap c R) (hb : Below w.heap.size w w') : Co B w' b g cap c R := h.keep (hb.block _ h.blt) (hb.block _ h.glt.2)
theorem Co.bx {X : Nat → Prop} (h : Co B w b g cap c R) (hb : Bx X w w') (h1 : ¬ X b) (h2 : ¬ X g) : Co B w' b g cap c R := h.keep (hb.block _ h.blt h1) (hb.block _ h.glt.2 h2)
theorem Co.len (h : Co B w b g cap c R) : 1 ≤ R.length ∧ R.length ≤ 1048576 := by
  have h1 := h.i.tr.pos
  have h2 := h.i.tr.len
  have h3 := h.i.pc.room
  have h4 := h.i.pc.m1
  omega
theorem Co.row (h : Co B w b g cap c R) : RdR w g R ∧ R.length ≤ cap ∧ cap ≤ maxLen ∧ ∀ i, w.frozen? ⟨g, i, none⟩ = false := by
  obtain ⟨g', cap', e, h1, h2, h3, h4, h5, h6⟩ := h.r.pos enL_len en0 h.len.1
  cases e
  exact ⟨fun i hi j hj => h5 i j hi hj, h1, h2, h6⟩
theorem Co.c0 (h : Co B w b g cap c R) : w.cell? ⟨b, 0, none⟩ = some (.int .i64 c.kind) := h.o.cell 0
theorem Co.c1 (h : Co B w b g cap c R) : w.cell? ⟨b, 1, none⟩ = some (.int .i64 c.k) := h.o.cell 1
theorem Co.c2 (h : Co B w b g cap c R) : w.cell? ⟨b, 2, none⟩ = some (.int .i64 c.o) := h.o.cell 2
theorem Co.c3 (h : Co B w b g cap c R) : w.cell? ⟨b, 3, none⟩ = some (.int .i64 c.most) := h.o.cell 3
theorem Co.c4 (h : Co B w b g cap c R) : w.cell? ⟨b, 4, none⟩ = some (.slice (some ⟨g, 0, none⟩) R.length cap) := h.o.cell 4
theorem Co.c5 (h : Co B w b g cap c R) : w.cell? ⟨b, 5, none⟩ = some (.int .i64 c.hits) := h.o.cell 5
theorem Co.c6 (h : Co B w b g cap c R) : w.cell? ⟨b, 6, none⟩ = some (.int .i64 c.miss) := h.o.cell 6
theorem Co.hit (h : Co B w b g cap c R) (x : Int) : Co B (w.setCell ⟨b, 5, none⟩ (.int .i64 x)) b g cap { c with hits := x } R :=
  ⟨h.o.set 5 _, h.r.keep fun k ek => by cases ek; exact Below.heap_setCell _ _ _ _ h.ne.symm, h.i.count x c.miss, h.ne, h.bB⟩
theorem Co.missed (h : Co B w b g cap c R) (x : Int) : Co B (w.setCell ⟨b, 6, none⟩ (.int .i64 x)) b g cap { c with miss := x } R :=
  ⟨h.o.set 6 _, h.r.keep fun k ek => by cases ek; exact Below.heap_setCell _ _ _ _ h.ne.symm, h.i.count c.hits x, h.ne, h.bB⟩

theorem isMealy_any (h : Co B w b g cap c R) : Calls Try.prog 34 #[.pointer (some ⟨b, 0, none⟩)] w fun e w' => e = .returned (.bool (c.kind == 2)) ∧ w' = w := by
  have c0 := h.c0
  clear h
  go_enter Try.func34, Try.ntmps34
  go_wp2
  go_ret
  exact ⟨rfl, rfl⟩
theorem isMade_any (h : Co B w b g cap c R) : Calls Try.prog 35 #[.pointer (some ⟨b, 0, none⟩)] w fun e w' => e = .returned (.bool true) ∧ w' = w := by
  have c4 := h.c4
  have hp := h.len.1
  have HD := hide (show decide (0 < R.length) = true from decide_eq_true (by omega))
  clear h hp
  go_enter Try.func35, Try.ntmps35
  go_wp2
  go_ret
  exact ⟨ret_bool (unhide HD), rfl⟩
theorem isMade_nil (w : World) : Calls Try.prog 35 #[.pointer none] w fun e w' => e = .returned (.bool false) ∧ w' = w := by
  go_enter Try.func35, Try.ntmps35
  go_wp2
  go_ret
  exact ⟨rfl, rfl⟩
theorem nodes_any (h : Co B w b g cap c R) : Calls Try.prog 21 #[.pointer (some ⟨b, 0, none⟩)] w fun e w' => e = .returned (.int .i64 (c.bg.length : Int)) ∧ w' = w := by
  have c4 := h.c4
  have HL := hide h.i.tr.len
  clear h
  go_enter Try.func21, Try.ntmps21
  go_wp2
  go_ret
  exact ⟨by rw [← unhide HL]; rfl, rfl⟩
theorem hits_any (h : Co B w b g cap c R) : Calls Try.prog 22 #[.pointer (some ⟨b, 0, none⟩)] w fun e w' => e = .returned (.int .i64 c.hits) ∧ w' = w := by
  have c5 := h.c5
  clear h
  go_enter Try.func22, Try.ntmps22
  go_wp2
  go_ret
  exact ⟨rfl, rfl⟩
theorem misses_any (h : Co B w b g cap c R) : Calls Try.prog 23 #[.pointer (some ⟨b, 0, none⟩)] w fun e w' => e = .returned (.int .i64 c.miss) ∧ w' = w := by
  have c6 := h.c6
  clear h
  go_enter Try.func23, Try.ntmps23
  go_wp2
  go_ret
  exact ⟨rfl, rfl⟩
end
theorem nodes_nil (w : World) : Calls Try.prog 21 #[.pointer none] w fun e w' => e = .returned (.int .i64 0) ∧ w' = w := by
  go_enter Try.func21, Try.ntmps21
  go_wp2
  go_ret
  exact ⟨rfl, rfl⟩
theorem hits_nil (w : World) : Calls Try.prog 22 #[.pointer none] w fun e w' => e = .returned (.int .i64 0) ∧ w' = w := by
  go_enter Try.func22, Try.ntmps22
  go_wp2
  go_ret
  exact ⟨rfl, rfl⟩
theorem misses_nil (w : World) : Calls Try.prog 23 #[.pointer none] w fun e w' => e = .returned (.int .i64 0) ∧ w' = w := by
  go_enter Try.func23, Try.ntmps23
  go_wp2
  go_ret
  exact ⟨rfl, rfl⟩
theorem put_nil (u v : Value) (w : World) : Calls Try.prog 15 #[.pointer none, u, v] w fun e w' => e = .returned (.int .i64 5) ∧ w' = w := by
  have h := isMade_nil w
  go_enter Try.func15, Try.ntmps15
  go_wp2_with fail
  refine h.mono ?_
  rintro e w1 ⟨rfl, rfl⟩
  go_wp2
  go_ret
  exact ⟨rfl, rfl⟩
theorem get_nil (u : Value) (w : World) : Calls Try.prog 17 #[.pointer none, u] w fun e w' => e = .returned (.tuple #[.slice none 0 0, .bool false]) ∧ w' = w := by
  have h := isMade_nil w
  go_enter Try.func17, Try.ntmps17
  go_wp2_with fail
  refine h.mono ?_
  rintro e w1 ⟨rfl, rfl⟩
  go_wp2
  go_ret2
  exact ⟨rfl, rfl⟩
theorem has_nil (u : Value) (w : World) : Calls Try.prog 20 #[.pointer none, u] w fun e w' => e = .returned (.bool false) ∧ w' = w := by
  have h := isMade_nil w
  go_enter Try.func20, Try.ntmps20
  go_wp2_with fail
  refine h.mono ?_
  rintro e w1 ⟨rfl, rfl⟩
  go_wp2
  go_ret
  exact ⟨rfl, rfl⟩
theorem words_nil (w : World) : Calls Try.prog 26 #[.pointer none] w fun e w' => e = .returned (.slice none 0 0) ∧ w' = w := by
  have h := isMade_nil w
  go_enter Try.func26, Try.ntmps26
  go_wp2_with fail
  refine h.mono ?_
  rintro e w1 ⟨rfl, rfl⟩
  go_wp2
  go_ret
  exact ⟨rfl, rfl⟩

end Go.Proofs.Ytemalidanjfmkaa

/-
  The program's notes on a word's beginnings.
-/
namespace Go.Proofs.Ytemalidanjfmkaa
open Go.RowKit

def ntC (t : Bool × Int) : List Value := [.bool t.1, .int .i64 t.2]
theorem ntC_len (t : Bool × Int) : (ntC t).length = 2 := rfl
theorem eNote : EltG 85 69 (.agg #[.bool false, .int .i64 0]) 2 16 ntC := ⟨Try.underlying69, by kernel_rfl, rfl, by decide, ntC_len, fun x u hu => by
  simp [ntC] at hu
  rcases hu with rfl | rfl <;> rfl⟩
def ntL (kd : Int) (wd out : List Int) : List (Bool × Int) := (List.range (wd.length + 1)).map (nta kd wd out)
theorem ntL_len (kd : Int) (wd out : List Int) : (ntL kd wd out).length = wd.length + 1 := by simp [ntL]
theorem ntL_at {kd : Int} {wd out : List Int} {i : Nat} (h : i < wd.length + 1) : (ntL kd wd out).getD i (false, 0) = nta kd wd out i := by simp [ntL, h]
/-- The notes in the making. -/
def ntJ (out : List Int) (n j : Nat) : List (Bool × Int) := (List.range n).map fun i => if i = 0 ∨ j < i then (false, 0) else (true, out.getD (i - 1) 0)
theorem ntJ_len (out : List Int) (n j : Nat) : (ntJ out n j).length = n := by simp [ntJ]
theorem ntJ_zero (out : List Int) (n : Nat) : ntJ out n 0 = List.replicate n (false, 0) := by
  refine List.ext_getElem? fun i => ?_
  by_cases h : i < n
  · have : i = 0 ∨ 0 < i := by omega
    simp [ntJ, h, this]
  · rw [List.getElem?_eq_none (by rw [ntJ_len]; omega), List.getElem?_eq_none (by simp; omega)]
theorem ntJ_step (out : List Int) {n j : Nat} (h : j + 1 < n) : (ntJ out n j).set (j + 1) (true, out.getD j 0) = ntJ out n (j + 1) := by
  refine List.ext_getElem? fun i => ?_
  rw [List.getElem?_set]
  by_cases hi : i < n
  · by_cases e : j + 1 = i
    · subst e
      rw [if_pos rfl, if_pos (by rw [ntJ_len]; exact hi)]
      simp [ntJ, hi]
    · rw [if_neg e]
      have : (i = 0 ∨ j < i) ↔ (i = 0 ∨ j + 1 < i) := by omega
      simp [ntJ, hi, this]
  · rw [if_neg (by omega), List.getElem?_eq_none (by rw [ntJ_len]; omega), List.getElem?_eq_none (by rw [ntJ_len]; omega)]
theorem ntJ_end {wd out : List Int} (h : out.length = wd.length) : ntJ out (wd.length + 1) out.length = ntL 2 wd out := by
  refine List.ext_getElem? fun i => ?_
  by_cases hi : i < wd.length + 1
  · have : ¬ (out.length < i) := by omega
    simp [ntJ, ntL, nta, hi, this]
  · rw [List.getElem?_eq_none (by rw [ntJ_len]; omega), List.getElem?_eq_none (by rw [ntL_len]; omega)]
theorem nt_one {wd out : List Int} : (List.replicate (wd.length + 1) ((false, 0) : Bool × Int)).set wd.length (true, out.getD 0 0) = ntL 1 wd out := by
  refine List.ext_getElem? fun i => ?_
  rw [List.getElem?_set]
  by_cases hi : i < wd.length + 1
  · by_cases e : wd.length = i
    · rw [if_pos e, if_pos (by simp)]
      simp [ntL, nta, e]
    · rw [if_neg e]
      have : ¬ i = wd.length := fun h => e h.symm
      simp [ntL, nta, hi, this]
  · rw [if_neg (by omega), List.getElem?_eq_none (by simp; omega), List.getElem?_eq_none (by rw [ntL_len]; omega)]

theorem note_cells2 {w : World} {B g n cap : Nat} {L : List (Bool × Int)} (h : OwnG 85 2 ntC w B (.slice (some ⟨g, 0, none⟩) n cap) L) (hn : L.length = n) {i : Nat} (hi : i < n) :
    w.cell? ⟨g, i * 2, none⟩ = some (.bool (L.getD i (false, 0)).1) ∧ w.cell? ⟨g, i * 2 + 1, none⟩ = some (.int .i64 (L.getD i (false, 0)).2) ∧ w.frozen? ⟨g, i * 2, none⟩ = false ∧ w.frozen? ⟨g, i * 2 + 1, none⟩ = false ∧ g < w.heap.size := by
  subst hn
  obtain ⟨g', c', e, -, -, -, h4, h5, h6⟩ := h.pos ntC_len (false, 0) (by omega)
  cases e
  exact ⟨h5 i 0 hi (by omega), h5 i 1 hi (by omega), h6 _, h6 _, h4⟩
theorem note_cells {w : World} {B g n cap : Nat} (h : OwnG 85 2 ntC w B (.slice (some ⟨g, 0, none⟩) n cap) (List.replicate n (false, 0))) {i : Nat} (hi : i < n) :
    w.cell? ⟨g, i * 2, none⟩ = some (.bool false) ∧ w.cell? ⟨g, i * 2 + 1, none⟩ = some (.int .i64 0) ∧ w.frozen? ⟨g, i * 2, none⟩ = false ∧ w.frozen? ⟨g, i * 2 + 1, none⟩ = false ∧ g < w.heap.size := by
  have := note_cells2 h (by simp) hi
  simpa [hi] using this

def NoPost (kd : Int) (wd out : List Int) (w : World) (e : Ending) (w' : World) : Prop :=
  ∃ v, e = .returned v ∧ OwnG 85 2 ntC w' w.heap.size v (ntL kd wd out) ∧ Below w.heap.size w w'

set_option maxRecDepth 100000 in
set_option maxHeartbeats 2000000 in
theorem notes_any {B : Nat} {w : World} {b g cap : Nat} {c : Cs} {R : List En} (a1 : Option Addr) (c1 : Nat) (wd : List Int) (a2 : Option Addr) (c2 : Nat) (out : List Int) (h : Co B w b g cap c R) (h2 : RdL .i64 w a2 out) (hl : wd.length ≤ 1000000000)
    (hf : (c.kind = 1 ∧ out.length = 1) ∨ (c.kind = 2 ∧ out.length = wd.length)) :
    Calls Try.prog 38 #[.pointer (some ⟨b, 0, none⟩), .slice a1 wd.length c1, .slice a2 out.length c2] w fun e w' => NoPost c.kind wd out w e w' := by
  have HH := hide h
  have H2 := hide h2
  clear h h2
  rcases hf with ⟨k1, ho⟩ | ⟨k2, ho⟩
  · have t0 : (c.kind == 2) = false := by simp [k1]
    have HK := hide k1
    clear k1
    obtain ⟨ba, off, rfl, hc⟩ := (unhide H2).at (i := 0) (by omega)
    have x0 := hc 0 (by omega)
    have hout' : (0 : Int) < (out.length : Int) := by omega
    rw [Nat.add_zero] at x0
    obtain ⟨X, hX⟩ : ∃ X, X = out.getD 0 0 := ⟨_, rfl⟩
    rw [← hX] at x0
    have HX := hide hX
    clear hc hX
    go_enter Try.func38, Try.ntmps38
    go_wp2_with (first | (at_make; refine wplG_make eNote (false, 0) rfl rfl (.tmp 12) (.tmp 12) rfl w.heap.size _ _ (wd.length + 1) rfl rfl (by go_num) (by go_num) (by omega) (by unfold maxLen; omega) (Nat.le_refl _) ?_; intro w1 ho1 hb1; have hi := isMealy_any ((unhide HH).below hb1)) | (go_at_call 34; refine hi.mono ?_; rw [t0]; rintro e w2 ⟨rfl, rfl⟩; obtain ⟨y0, y1, f0, f1, hlt⟩ := note_cells ho1 (show wd.length < wd.length + 1 by omega); have x1 := (hb1.cell (World.block_lt_of_cell? _ _ x0)).trans x0; have hw' : (wd.length : Int) < ((wd.length + 1 : Nat) : Int) := by omega))
    go_ret
    refine ⟨_, rfl, ?_, ?_⟩
    · rw [unhide HK, ← nt_one, ← unhide HX]
      have := OwnG.set2 ntC_len (false, 0) (show OwnG 85 2 ntC _ w.heap.size (.slice (some ⟨w.heap.size, 0, none⟩) (List.replicate (wd.length + 1) ((false, 0) : Bool × Int)).length (wd.length + 1)) _ by rw [List.length_replicate]; exact ho1) (s := wd.length) (i := 0) (j := 1) (by simp) (by omega) (by omega) (.bool true) (.int .i64 X) (true, X) rfl
      rw [List.length_replicate] at this
      exact this
    · exact (hb1.setCell (p := ⟨w.heap.size, _, none⟩) (Nat.le_refl _) _).setCell (p := ⟨w.heap.size, _, none⟩) (Nat.le_refl _) _
  · have t0 : (c.kind == 2) = true := by simp [k2]
    have HK := hide k2
    clear k2
    go_enter Try.func38, Try.ntmps38
    go_wp2_with (first | (at_make; refine wplG_make eNote (false, 0) rfl rfl (.tmp 12) (.tmp 12) rfl w.heap.size _ _ (wd.length + 1) rfl rfl (by go_num) (by go_num) (by omega) (by unfold maxLen; omega) (Nat.le_refl _) ?_; intro w1 ho1 hb1; have hi := isMealy_any ((unhide HH).below hb1)) | (go_at_call 34; refine hi.mono ?_; rw [t0]; rintro e w2 ⟨rfl, rfl⟩))
    have HO1 : Hid (OwnG 85 2 ntC w2 w.heap.size (.slice (some ⟨w.heap.size, 0, none⟩) (wd.length + 1) (wd.length + 1)) (ntJ out (wd.length + 1) 0)) := by rw [ntJ_zero]; exact ho1
    clear hi ho1
    go_loopw [18] (fun i wr => ∃ j : Nat, i = .int .i64 j ∧ j ≤ out.length ∧ Hid (OwnG 85 2 ntC wr w.heap.size (.slice (some ⟨w.heap.size, 0, none⟩) (wd.length + 1) (wd.length + 1)) (ntJ out (wd.length + 1) j)) ∧ Below w.heap.size w wr) (fun i _ => out.length - (intOf i).toNat)
    case atStart => exact ⟨0, rfl, Nat.zero_le _, HO1, hb1⟩
    case round =>
      obtain ⟨j, rfl, hj, HO, hB⟩ := hrel
      by_cases hlt : j < out.length
      · have hlt' : (j : Int) < (out.length : Int) := by omega
        obtain ⟨ba, off, rfl, hc⟩ := ((unhide H2).below hB).at hlt
        have x0 := hc j hlt
        have ho' := unhide HO
        obtain ⟨X, hX⟩ : ∃ X, X = out.getD j 0 := ⟨_, rfl⟩
        rw [← hX] at x0
        have HX := hide hX
        clear hX
        obtain ⟨y0, y1, f0, f1, -⟩ := note_cells2 ho' (ntJ_len _ _ _) (show j + 1 < wd.length + 1 by omega)
        have hw' : ((j + 1 : Nat) : Int) < ((wd.length + 1 : Nat) : Int) := by omega
        clear hc HO1 ho'
        go_wp2
        go_roundw
        case rel =>
          refine ⟨j + 1, by go_num, by omega, ?_, (hB.setCell (p := ⟨w.heap.size, _, none⟩) (Nat.le_refl _) _).setCell (p := ⟨w.heap.size, _, none⟩) (Nat.le_refl _) _⟩
          show OwnG _ _ _ _ _ _ _
          rw [← ntJ_step out (by omega), ← unhide HX]
          have := OwnG.set2 ntC_len (false, 0) (show OwnG 85 2 ntC _ w.heap.size (.slice (some ⟨w.heap.size, 0, none⟩) (ntJ out (wd.length + 1) j).length (wd.length + 1)) _ by rw [ntJ_len]; exact unhide HO) (s := j + 1) (i := 0) (j := 1) (by rw [ntJ_len]; omega) (by omega) (by omega) (.bool true) (.int .i64 X) (true, X) rfl
          rw [ntJ_len] at this
          exact this
        case measure => simp [intOf]; omega
      · obtain rfl : j = out.length := by omega
        have HOE : Hid (OwnG 85 2 ntC wr w.heap.size (.slice (some ⟨w.heap.size, 0, none⟩) (wd.length + 1) (wd.length + 1)) (ntL c.kind wd out)) := by rw [unhide HK, ← ntJ_end ho]; exact unhide HO
        go_wp2
        go_ret
        exact ⟨_, rfl, unhide HOE, hB⟩

end Go.Proofs.Ytemalidanjfmkaa

/-
  The program's test whether otherwise is kept.
-/
namespace Go.Proofs.Ytemalidanjfmkaa
open Go.RowKit

set_option maxRecDepth 100000 in
set_option maxHeartbeats 2000000 in
theorem clashesWith_any (e : En) (t : Bool × Int) (w : World) : Calls Try.prog 57 #[.agg #[.bool e.kn, .int .i64 e.la], .agg #[.bool t.1, .int .i64 t.2]] w fun x w' => x = .returned (.bool (clE e t)) ∧ Below w.heap.size w w' := by
  obtain ⟨p, s, c, n, kn, la⟩ := e
  obtain ⟨t1, t2⟩ := t
  have HB := hide (bstep (ballo w (.cells #[.bool kn, .int .i64 la] 85)) (ballo _ (.cells #[.bool t1, .int .i64 t2] 85)))
  show Calls Try.prog 57 #[.agg #[.bool kn, .int .i64 la], .agg #[.bool t1, .int .i64 t2]] w fun x w' => x = .returned (.bool (clE ⟨p, s, c, n, kn, la⟩ (t1, t2))) ∧ Below w.heap.size w w'
  cases kn with
  | false =>
    go_enter Try.func57, Try.ntmps57
    go_wp2
    go_ret
    exact ⟨rfl, unhide HB⟩
  | true =>
    cases t1 with
    | false =>
      go_enter Try.func57, Try.ntmps57
      go_wp2
      go_ret
      exact ⟨rfl, unhide HB⟩
    | true =>
      by_cases hx : la = t2
      · subst hx
        have HC := hide (show clE ⟨p, s, c, n, true, la⟩ (true, la) = false by simp [clE])
        go_enter Try.func57, Try.ntmps57
        go_wp2
        go_ret
        exact ⟨by rw [unhide HC]; rfl, unhide HB⟩
      · have HC := hide (show clE ⟨p, s, c, n, true, la⟩ (true, t2) = true by simp [clE, hx])
        go_enter Try.func57, Try.ntmps57
        go_wp2
        go_ret
        exact ⟨by rw [unhide HC]; rfl, unhide HB⟩

/-- Is otherwise noted of one of the first j? -/
def clJ (R : List En) (N : List (Bool × Int)) (P : List Nat) (j : Nat) : Bool := (List.range j).any fun i => clE (ea R (P.getD i 0)) (N.getD i (false, 0))
theorem clJ_hit {R : List En} {N : List (Bool × Int)} {P : List Nat} {j : Nat} (hj : j < P.length) (h : clE (ea R (P.getD j 0)) (N.getD j (false, 0)) = true) : clJ R N P P.length = true := by
  unfold clJ
  rw [List.any_eq_true]
  exact ⟨j, List.mem_range.2 hj, h⟩
theorem clJ_step {R : List En} {N : List (Bool × Int)} {P : List Nat} {j : Nat} (h0 : clJ R N P j = false) (h : clE (ea R (P.getD j 0)) (N.getD j (false, 0)) = false) : clJ R N P (j + 1) = false := by
  unfold clJ at h0 ⊢
  rw [List.any_eq_false] at h0 ⊢
  intro i hi
  have := List.mem_range.1 hi
  by_cases e : i = j
  · subst e; simpa using h
  · exact h0 i (List.mem_range.2 (by omega))

set_option maxRecDepth 100000 in
set_option maxHeartbeats 2000000 in
theorem clashes_any (R : List En) (g cap : Nat) (av : Option Addr) (cv : Nat) (P : List Nat) (gn cn : Nat) (N : List (Bool × Int)) (Bn : Nat) (w : World) (hr : RdR w g R) (hp : RdL .i64 w av (ni P)) (hP : ∀ j, j < P.length → P.getD j 0 < R.length) (hn : OwnG 85 2 ntC w Bn (.slice (some ⟨gn, 0, none⟩) N.length cn) N) (hl : P.length ≤ N.length) (hN : N.length ≤ 1000000001) :
    Calls Try.prog 40 #[.slice (some ⟨g, 0, none⟩) R.length cap, .slice av P.length cv, .slice (some ⟨gn, 0, none⟩) N.length cn] w fun e w' => e = .returned (.bool (clJ R N P P.length)) ∧ Below w.heap.size w w' := by
  have HR := hide hr
  have HP := hide hp
  have HPL := hide hP
  have HN := hide hn
  clear hr hp hP hn
  go_enter Try.func40, Try.ntmps40
  go_wp2
  go_loopw [11] (fun i wr => ∃ j : Nat, i = .int .i64 j ∧ j ≤ P.length ∧ Hid (clJ R N P j = false) ∧ Below w.heap.size w wr) (fun i _ => P.length - (intOf i).toNat)
  case atStart => exact ⟨0, rfl, Nat.zero_le _, hide rfl, Below.refl _ _⟩
  case round =>
    obtain ⟨j, rfl, hj, HC, hB⟩ := hrel
    by_cases hlt : j < P.length
    · have hlt' : (j : Int) < (P.length : Int) := by omega
      have hltN : (j : Int) < (N.length : Int) := by omega
      obtain ⟨b, off, rfl, hc⟩ := ((unhide HP).below hB).at (i := j) (by rw [ni_len]; exact hlt)
      have c0 := hc j (by rw [ni_len]; exact hlt)
      rw [ni_at] at c0
      have hA := unhide HPL j hlt
      have hA' : ((P.getD j 0 : Nat) : Int) < (R.length : Int) := by omega
      have r := (unhide HR).below hB
      have r4 := r.kn hA
      have r5 := r.la hA
      obtain ⟨y0, y1, -, -, -⟩ := note_cells2 ((unhide HN).below hB) rfl (show j < N.length by omega)
      obtain ⟨cl, hcl⟩ : ∃ cl, cl = clE (ea R (P.getD j 0)) (N.getD j (false, 0)) := ⟨_, rfl⟩
      have hcall : ∀ wx, Calls Try.prog 57 #[.agg #[.bool (ea R (P.getD j 0)).kn, .int .i64 (ea R (P.getD j 0)).la], .agg #[.bool (N.getD j (false, 0)).1, .int .i64 (N.getD j (false, 0)).2]] wx fun x w' => x = .returned (.bool cl) ∧ Below wx.heap.size wx w' := fun wx => by
        rw [hcl]; exact clashesWith_any _ _ wx
      have H1 : Hid (cl = true → clJ R N P P.length = true) := fun e => clJ_hit hlt (by rw [← hcl]; exact e)
      have H2 : Hid (cl = false → clJ R N P (j + 1) = false) := fun e => clJ_step (unhide HC) (by rw [← hcl]; exact e)
      generalize (ea R (P.getD j 0)).kn = K1 at *
      generalize (ea R (P.getD j 0)).la = K2 at *
      generalize (N.getD j (false, 0)).1 = K3 at *
      generalize (N.getD j (false, 0)).2 = K4 at *
      generalize P.getD j 0 = A at *
      clear hc hcl r hA
      go_wp2
      go_region_with (go_at_call 57; refine (hcall _).mono ?_; rintro e w1 ⟨rfl, hb1⟩)
      all_goals
        have hB1 : Below w.heap.size w w1 := bstep hB.drew hb1
        cases cl with
        | true =>
          go_wp2
          go_ret
          exact ⟨by rw [unhide H1 (by first | rfl | trivial)]; rfl, hB1⟩
        | false =>
          go_wp2
          go_roundw
          case rel => exact ⟨j + 1, by go_num, by omega, hide (unhide H2 (by first | rfl | trivial)), hB1⟩
          case measure => simp [intOf]; omega
    · obtain rfl : j = P.length := by omega
      go_wp2
      go_ret
      exact ⟨by rw [unhide HC]; rfl, hB⟩

end Go.Proofs.Ytemalidanjfmkaa

/-
  What the program tells of a word that is kept; whether an answer fits.
-/
namespace Go.Proofs.Ytemalidanjfmkaa
open Go.RowKit

/-- What the notes at these places say. -/
def laM (R : List En) (Q : List Nat) : List Int := Q.map fun i => (ea R i).la
theorem laM_next {R : List En} {Q : List Nat} {j : Nat} (h : j < Q.length) : laM R (Q.take (j + 1)) = laM R (Q.take j) ++ [(ea R (Q.getD j 0)).la] := by
  unfold laM
  rw [List.take_succ_eq_append_getElem h, List.map_append]
  simp [List.getD_eq_getElem?_getD, h]
theorem RdL.drop {q : IntKind} {w : World} {b off : Nat} {l : List Int} (h : RdL q w (some ⟨b, off, none⟩) l) (n : Nat) : RdL q w (some ⟨b, off + n, none⟩) (l.drop n) := by
  rcases h with h | ⟨b', off', e, hc⟩
  · exact .inl (by rw [List.length_drop]; omega)
  · cases e
    refine .inr ⟨b, off + n, rfl, fun i hi => ?_⟩
    rw [List.length_drop] at hi
    rw [Nat.add_assoc, hc (n + i) (by omega)]
    simp [List.getD_eq_getElem?_getD]

set_option maxRecDepth 100000 in
set_option maxHeartbeats 2000000 in
theorem said_any {B : Nat} {w : World} {b g cap : Nat} {c : Cs} {R : List En} (ba off cv : Nat) (wd : List Int) (P : List Nat) (y : List Int) (h : Co B w b g cap c R) (hp : RdL .i64 w (some ⟨ba, off, none⟩) (ni P)) (hcv : P.length ≤ cv) (hcm : cv ≤ maxLen) (hP : PthE c.bg wd P) (hy : findV c wd = some y) (hl : wd.length ≤ 1000000000) :
    Calls Try.prog 46 #[.pointer (some ⟨b, 0, none⟩), .slice (some ⟨ba, off, none⟩) P.length cv] w fun e w' => ∃ v, e = .returned v ∧ OwnL .i64 3 w' w.heap.size v y ∧ Below w.heap.size w w' := by
  obtain ⟨s1, s2, s3⟩ := h.i.said hP hy
  obtain ⟨F, hF, hFl, hFy⟩ : ∃ F : Nat, ((c.kind == 2) = true → F = 1) ∧ F ≤ P.length ∧ y = laM R (P.drop F) ∧ ((c.kind == 2) = false → F + 1 = P.length) := by
    rcases h.i.pc.kd with k | k
    · refine ⟨wd.length, fun e => by simp [k] at e, by omega, ?_, fun _ => by omega⟩
      rw [s2 k]
      unfold laM
      rw [List.drop_eq_getElem_cons (by omega), List.drop_eq_nil_of_le (by omega)]
      simp [List.getD_eq_getElem?_getD, show wd.length < P.length by omega]
    · exact ⟨1, fun _ => rfl, by omega, s3 k, fun e => by simp [k] at e⟩
  obtain ⟨hFy, hFk⟩ := hFy
  have hQ : ∀ j, j < (P.drop F).length → (P.drop F).getD j 0 < R.length := fun j hj => by
    rw [List.length_drop] at hj
    have := (hP.1.at' (F + j) (by omega)).1
    rw [h.i.tr.len]
    simpa [List.getD_eq_getElem?_getD] using this
  have hrd := hp.drop F
  rw [show (ni P).drop F = ni (P.drop F) by simp [ni]] at hrd
  have hdl : (P.drop F).length = P.length - F := List.length_drop
  have HH := hide h
  have HQ := hide hQ
  have HRD := hide hrd
  have HY := hide hFy
  obtain ⟨Q, hQe⟩ : ∃ Q, Q = P.drop F := ⟨_, rfl⟩
  rw [← hQe] at HQ HRD HY hdl
  have him := isMealy_any h
  have hcap : (P.length : Int) ≤ (cv : Int) := by omega
  have hcap2 : (F : Int) ≤ (P.length : Int) := by omega
  have hQn : Q.length ≤ 1000000001 := by omega
  unfold maxLen at hcm
  clear h hp hP hy s2 s3 hFy hQ hrd hQe
  have MAIN : Calls Try.prog 46 #[.pointer (some ⟨b, 0, none⟩), .slice (some ⟨ba, off, none⟩) P.length cv] w fun e w' => ∃ v, e = .returned v ∧ OwnL .i64 3 w' w.heap.size v (laM R Q) ∧ Below w.heap.size w w' := by
    clear HY
    by_cases k : (c.kind == 2) = true
    · have e1 := hF k
      subst e1
      rw [k] at him
      have hc1 : (1 : Int) ≤ (P.length : Int) := by omega
      clear k hF hFk hcap2 hFl s1
      go_enter Try.func46, Try.ntmps46
      go_wp2_with fail
      refine him.mono ?_
      rintro e w1 ⟨rfl, rfl⟩
      go_wp2
      all_goals
        rw [← hdl]
        first
        | (have HQ0 : Hid (Q.length = 0) := by show _ = _; omega)
        | skip
        have HDL := hide hdl
        clear hdl
        go_loopw [6, 18] (fun v i wr => ∃ j : Nat, i = .int .i64 j ∧ j ≤ Q.length ∧ Hid (OwnL .i64 3 wr w1.heap.size v (laM R (Q.take j))) ∧ Below w1.heap.size w1 wr) (fun _ i _ => Q.length - (intOf i).toNat)
        case atStart => exact ⟨0, rfl, Nat.zero_le _, hide (OwnL.nil _ _ _ _), Below.refl _ _⟩
        case round =>
          obtain ⟨j, rfl, hj, HO, hB⟩ := hrel
          by_cases hlt : j < Q.length
          · first
            | (exfalso; have := unhide HQ0; omega)
            | (have hlt' : (j : Int) < (Q.length : Int) := by omega
               obtain ⟨b', off', e', hc⟩ := ((unhide HRD).below hB).at (i := j) (by rw [ni_len]; exact hlt)
               cases e'
               have c0 := hc j (by rw [ni_len]; exact hlt)
               rw [ni_at] at c0
               have hA := unhide HQ j hlt
               have hA' : ((Q.getD j 0 : Nat) : Int) < (R.length : Int) := by omega
               have co := (unhide HH).below hB
               have c4 := co.c4
               have r5 := co.row.1.la hA
               have HN := hide (laM_next (R := R) hlt)
               have hll : (laM R (Q.take j)).length = j := by simp [laM]; omega
               generalize (ea R (Q.getD j 0)).la = X at *
               generalize Q.getD j 0 = A at *
               clear hc co hA
               go_wp2_with (at_builtin; refine wpl_pushL eInt rfl (.tmp 22) (.tmp 32) rfl w1.heap.size _ (laM R (Q.take j)) rfl (OwnL.alloc (unhide HO) _) (some ⟨wr.heap.size, 0, none⟩) 1 [X] rfl (RdL.one _ _) (fun e => by cases e) (by rw [hll]; simp only [List.length_cons, List.length_nil]; omega) (by have := hB.size; simp; omega) ?_; intro v8 w8 ho8 hb8 hg8)
               go_wp2
               go_roundw
               case rel => exact ⟨j + 1, by go_num, by omega, hide (by rw [unhide HN]; exact ho8), (balloc hB _).trans hb8⟩
               case measure => simp [intOf]; omega)
          · obtain rfl : j = Q.length := by omega
            have HO1 := unhide HO
            rw [List.take_length] at HO1
            have HO' := hide HO1
            clear HO1
            go_wp2
            go_ret
            exact ⟨_, rfl, unhide HO', hB⟩
    · have k' : (c.kind == 2) = false := by simpa using k
      obtain rfl : F = P.length - 1 := by have := hFk k'; omega
      rw [k'] at him
      have hnc : ¬ (cv = P.length - 1) := by omega
      have hfc : (P.length : Int) - 1 ≤ (cv : Int) := by omega
      have hfc0 : (0 : Int) ≤ (P.length : Int) - 1 := by omega
      clear k hF hFk hcap2 hFl s1
      go_enter Try.func46, Try.ntmps46
      go_wp2_with fail
      refine him.mono ?_
      rintro e w1 ⟨rfl, rfl⟩
      go_wp2
      all_goals
        rw [← hdl]
        have HDL := hide hdl
        clear hdl
        go_loopw [6, 18] (fun v i wr => ∃ j : Nat, i = .int .i64 j ∧ j ≤ Q.length ∧ Hid (OwnL .i64 3 wr w1.heap.size v (laM R (Q.take j))) ∧ Below w1.heap.size w1 wr) (fun _ i _ => Q.length - (intOf i).toNat)
        case atStart => exact ⟨0, rfl, Nat.zero_le _, hide (OwnL.nil _ _ _ _), Below.refl _ _⟩
        case round =>
          obtain ⟨j, rfl, hj, HO, hB⟩ := hrel
          by_cases hlt : j < Q.length
          · have hlt' : (j : Int) < (Q.length : Int) := by omega
            obtain ⟨b', off', e', hc⟩ := ((unhide HRD).below hB).at (i := j) (by rw [ni_len]; exact hlt)
            cases e'
            have c0 := hc j (by rw [ni_len]; exact hlt)
            rw [ni_at] at c0
            have hA := unhide HQ j hlt
            have hA' : ((Q.getD j 0 : Nat) : Int) < (R.length : Int) := by omega
            have co := (unhide HH).below hB
            have c4 := co.c4
            have r5 := co.row.1.la hA
            have HN := hide (laM_next (R := R) hlt)
            have hll : (laM R (Q.take j)).length = j := by simp [laM]; omega
            generalize (ea R (Q.getD j 0)).la = X at *
            generalize Q.getD j 0 = A at *
            clear hc co hA
            go_wp2_with (at_builtin; refine wpl_pushL eInt rfl (.tmp 22) (.tmp 32) rfl w1.heap.size _ (laM R (Q.take j)) rfl (OwnL.alloc (unhide HO) _) (some ⟨wr.heap.size, 0, none⟩) 1 [X] rfl (RdL.one _ _) (fun e => by cases e) (by rw [hll]; simp only [List.length_cons, List.length_nil]; omega) (by have := hB.size; simp; omega) ?_; intro v8 w8 ho8 hb8 hg8)
            go_wp2
            go_roundw
            case rel => exact ⟨j + 1, by go_num, by omega, hide (by rw [unhide HN]; exact ho8), (balloc hB _).trans hb8⟩
            case measure => simp [intOf]; omega
          · obtain rfl : j = Q.length := by omega
            have HO1 := unhide HO
            rw [List.take_length] at HO1
            have HO' := hide HO1
            clear HO1
            go_wp2
            go_ret
            exact ⟨_, rfl, unhide HO', hB⟩
  rw [unhide HY]
  exact MAIN

end Go.Proofs.Ytemalidanjfmkaa

/-
  The program's test whether an answer fits a word.
-/
namespace Go.Proofs.Ytemalidanjfmkaa
open Go.RowKit

def qOf (c : Cs) (a1 : Option Addr) (c1 : Nat) (wd : List Int) : Pq := ⟨⟨1, wd, ⟨c.kind, c.k, c.o, 0, [], []⟩⟩, a1, c1, none, 0, none, 0⟩
def aOf (a2 : Option Addr) (c2 : Nat) (out : List Int) : Pa := ⟨⟨1, out, []⟩, a2, c2, none, 0⟩
/-- Does the answer fit? -/
def fitC (c : Cs) (wd out : List Int) : Int := chkA ⟨1, wd, ⟨c.kind, c.k, c.o, 0, [], []⟩⟩ ⟨1, out, []⟩

set_option maxRecDepth 100000 in
set_option maxHeartbeats 2000000 in
theorem cfits_any {B : Nat} {w : World} {b g cap : Nat} {c : Cs} {R : List En} (a1 : Option Addr) (c1 : Nat) (wd : List Int) (a2 : Option Addr) (c2 : Nat) (out : List Int) (h : Co B w b g cap c R) (h2 : RdL .i64 w a2 out) (hl : out.length ≤ maxLen) :
    Calls Try.prog 37 #[.pointer (some ⟨b, 0, none⟩), .slice a1 wd.length c1, .slice a2 out.length c2] w fun e w' => e = .returned (.bool (fitC c wd out == 0)) ∧ Below w.heap.size w w' := by
  have k0 := h.c0
  have k1 := h.c1
  have k2 := h.c2
  have hlt := h.blt
  have H2 := hide h2
  clear h h2
  go_enter Try.func37, Try.ntmps37
  go_wp2
  go_region
  have hQ := (Qb.alloc w (qOf c a1 c1 wd) 77).below (Below.refl _ _).drew
  have hbq := (ballo w (.cells #[.int .i64 1, .slice a1 wd.length c1, .int .i64 c.kind, .int .i64 c.k, .int .i64 c.o, .int .i64 0, .slice none 0 0, .slice none 0 0] 77)).drew
  change Qb (w.alloc (.cells #[.int .i64 1, .slice a1 wd.length c1, .int .i64 c.kind, .int .i64 c.k, .int .i64 c.o, .int .i64 0, .slice none 0 0, .slice none 0 0] 77)).drew _ _ at hQ
  generalize (w.alloc (.cells #[.int .i64 1, .slice a1 wd.length c1, .int .i64 c.kind, .int .i64 c.k, .int .i64 c.o, .int .i64 0, .slice none 0 0, .slice none 0 0] 77)).drew = W at *
  obtain ⟨p0, p1, p2, p3, p4, p5, p6, p7⟩ := hQ
  have ht := tcheck_any (qOf c a1 c1 wd) (aOf a2 c2 out) W ⟨(unhide H2).below hbq, RdL.nil _ _ _⟩ hl (by unfold maxLen; exact Nat.zero_le _)
  change Calls _ _ #[.agg #[.int .i64 1, .slice a1 wd.length c1, .int .i64 c.kind, .int .i64 c.k, .int .i64 c.o, .int .i64 0, .slice none 0 0, .slice none 0 0], .agg #[.int .i64 1, .slice a2 out.length c2, .slice none 0 0]] _ (fun e w' => e = .returned (.int .i64 (fitC c wd out)) ∧ Below W.heap.size W w') at ht
  change W.cell? _ = some (.int .i64 1) at p0
  change W.cell? _ = some (.slice a1 wd.length c1) at p1
  change W.cell? _ = some (.int .i64 c.kind) at p2
  change W.cell? _ = some (.int .i64 c.k) at p3
  change W.cell? _ = some (.int .i64 c.o) at p4
  change W.cell? _ = some (.int .i64 0) at p5
  change W.cell? _ = some (.slice none 0 0) at p6
  change W.cell? _ = some (.slice none 0 0) at p7
  clear k0 k1 k2 hlt
  go_wp2_with fail
  refine ht.mono ?_
  rintro e w1 ⟨rfl, hb1⟩
  obtain ⟨F, hF⟩ : ∃ F, fitC c wd out = F := ⟨_, rfl⟩
  have HF := hide hF
  rw [hF]
  clear hF
  go_wp2
  go_ret
  exact ⟨by rw [unhide HF]; rfl, bstep hbq hb1⟩

end Go.Proofs.Ytemalidanjfmkaa

/-
  The program's Get and Has.
-/
namespace Go.Proofs.Ytemalidanjfmkaa
open Go.RowKit

/-- What is left behind a Get. -/
def getV (c : Cs) (wd : List Int) : Cs := match findV c wd with
  | some _ => { c with hits := c.hits + 1 }
  | none => { c with miss := c.miss + 1 }
def GtPost (B b g cap : Nat) (c : Cs) (R : List En) (wd : List Int) (w : World) (e : Ending) (w' : World) : Prop :=
  Co B w' b g cap (getV c wd) R ∧ Bx (fun j => j = b) w w' ∧ ∃ v, e = .returned (.tuple #[v, .bool (findV c wd).isSome]) ∧ OwnL .i64 3 w' w.heap.size v ((findV c wd).getD [])

set_option maxRecDepth 100000 in
set_option maxHeartbeats 2000000 in
theorem get_any {B : Nat} {w : World} {b g cap : Nat} {c : Cs} {R : List En} (a3 : Option Addr) (c3 : Nat) (wd : List Int) (h : Co B w b g cap c R) (hw : RdL .i64 w a3 wd) (hl : wd.length ≤ 1000000000) (h0 : 0 ≤ c.hits) (h1 : c.hits ≤ 1000000000) (m0 : 0 ≤ c.miss) (m1 : c.miss ≤ 1000000000) :
    Calls Try.prog 17 #[.pointer (some ⟨b, 0, none⟩), .slice a3 wd.length c3] w fun e w' => GtPost B b g cap c R wd w e w' := by
  have hmd := isMade_any h
  have hfi := find_any R c g cap a3 c3 wd w h.i h.row.1 hw hl
  have HH := hide h
  have c4 := h.c4
  clear h hw
  go_enter Try.func17, Try.ntmps17
  go_wp2_with fail
  refine hmd.mono ?_
  rintro e w1 ⟨rfl, rfl⟩
  go_wp2_with fail
  refine hfi.mono ?_
  rintro e w2 ⟨hb2, hor⟩
  have co := (unhide HH).below hb2
  clear hmd hfi c4
  rcases hor with ⟨hn, rfl⟩ | ⟨v, P, y, hy, rfl, hp, ho⟩
  · have c6 := co.c6
    have f6 := co.o.frz 6
    have HF : Hid (GtPost B b g cap c R wd w1 (.returned (.tuple #[.slice none 0 0, .bool false])) (w2.setCell ⟨b, 6, none⟩ (.int .i64 (c.miss + 1)))) := by
      refine ⟨?_, (Bx.setCell (X := fun j => j = b) (Bx.of hb2) (p := ⟨b, 6, none⟩) rfl _), ?_⟩
      · unfold getV; rw [hn]; exact co.missed _
      · rw [hn]; exact ⟨_, rfl, OwnL.nil _ _ _ _⟩
    clear hn co
    go_wp2
    go_ret2
    exact unhide HF
  · have c5 := co.c5
    have f5 := co.o.frz 5
    have co2 := co.hit (c.hits + 1)
    have hne : (w2.setCell ⟨b, 5, none⟩ (.int .i64 (c.hits + 1))).heap.size = w2.heap.size := by simp
    obtain ⟨av, cv, rfl, hnil, hcv, hcm, hrd, hblk⟩ := ho.shape
    rw [ni_len] at hnil hcv
    rw [ni_len]
    cases av with
    | none => have := hp.1.pos; have := hnil rfl; omega
    | some ad =>
      obtain ⟨ba, off, mm⟩ := ad
      obtain ⟨b', off', e', hc'⟩ := hrd.at (i := 0) (by rw [ni_len]; exact hp.1.pos)
      cases e'
      have hbb := hblk _ rfl
      have hblt := co.blt
      have hblt0 := (unhide HH).blt
      have hrd2 : RdL .i64 (w2.setCell ⟨b, 5, none⟩ (.int .i64 (c.hits + 1))) (some ⟨ba, off, none⟩) (ni P) := hrd.bx ((Bx.refl (fun j => j = b) w2).setCell (p := ⟨b, 5, none⟩) rfl _) fun x ex => by
        cases ex
        show ¬ ba = b
        have : w1.heap.size ≤ ba := hbb.1
        omega
      have hsd := said_any ba off cv wd P y co2 hrd2 hcv hcm hp hy hl
      have HF : Hid (∀ v w3, OwnL .i64 3 w3 (w2.setCell ⟨b, 5, none⟩ (.int .i64 (c.hits + 1))).heap.size v y → Below (w2.setCell ⟨b, 5, none⟩ (.int .i64 (c.hits + 1))).heap.size (w2.setCell ⟨b, 5, none⟩ (.int .i64 (c.hits + 1))) w3 → GtPost B b g cap c R wd w1 (.returned (.tuple #[v, .bool true])) w3) := fun v w3 hv hb3 => by
        refine ⟨?_, (Bx.setCell (X := fun j => j = b) (Bx.of hb2) (p := ⟨b, 5, none⟩) rfl _).trans (Bx.of (X := fun _ => False) hb3) (fun _ _ x => x.elim), ?_⟩
        · unfold getV; rw [hy]; exact co2.below hb3
        · rw [hy]; exact ⟨v, rfl, hv.mono (by rw [hne]; exact hb2.size)⟩
      clear hy hp hrd hrd2 hc' ho hblk hnil co co2 hcv hcm hne hbb
      go_wp2_with fail
      refine hsd.mono ?_
      rintro e w3 ⟨v, rfl, hv, hb3⟩
      have HG := hide (unhide HF v w3 hv hb3)
      clear hv hb3 HF hsd c5 f5
      go_wp2
      go_ret2
      exact unhide HG

theorem has_any {B : Nat} {w : World} {b g cap : Nat} {c : Cs} {R : List En} (a3 : Option Addr) (c3 : Nat) (wd : List Int) (h : Co B w b g cap c R) (hw : RdL .i64 w a3 wd) (hl : wd.length ≤ 1000000000) :
    Calls Try.prog 20 #[.pointer (some ⟨b, 0, none⟩), .slice a3 wd.length c3] w fun e w' => e = .returned (.bool (findV c wd).isSome) ∧ Below w.heap.size w w' := by
  have hmd := isMade_any h
  have hfi := find_any R c g cap a3 c3 wd w h.i h.row.1 hw hl
  have c4 := h.c4
  clear h hw
  go_enter Try.func20, Try.ntmps20
  go_wp2_with fail
  refine hmd.mono ?_
  rintro e w1 ⟨rfl, rfl⟩
  go_wp2_with fail
  refine hfi.mono ?_
  rintro e w2 ⟨hb2, hor⟩
  clear hmd hfi c4
  rcases hor with ⟨hn, rfl⟩ | ⟨v, P, y, hy, rfl, hp, ho⟩
  · have HE := hide (show (findV c wd).isSome = false by rw [hn]; rfl)
    clear hn
    go_wp2
    go_ret
    exact ⟨by rw [unhide HE]; rfl, hb2⟩
  · have HE := hide (show (findV c wd).isSome = true by rw [hy]; rfl)
    clear hy hp ho
    go_wp2
    go_ret
    exact ⟨by rw [unhide HE]; rfl, hb2⟩

end Go.Proofs.Ytemalidanjfmkaa

/-
  The program's add: one word more in a row.
-/
namespace Go.Proofs.Ytemalidanjfmkaa
open Go.RowKit

/-- A cache's cells and its row, whatever the notes. -/
structure Rw (B : Nat) (w : World) (b g cap : Nat) (c : Cs) (R : List En) : Prop where
  o : Bk w b (coC c R.length g cap) 65
  r : OwnG 87 6 enL w B (.slice (some ⟨g, 0, none⟩) R.length cap) R
  ne : b ≠ g
  bB : B ≤ b
section
variable {B : Nat} {w w' : World} {b g cap : Nat} {c : Cs} {R : List En}
theorem Co.rw (h : Co B w b g cap c R) : Rw B w b g cap c R := ⟨h.o, h.r, h.ne, h.bB⟩
theorem Rw.keep (h : Rw B w b g cap c R) (e1 : w'.heap[b]? = w.heap[b]?) (e2 : w'.heap[g]? = w.heap[g]?) : Rw B w' b g cap c R :=
  ⟨h.o.keep e1, h.r.keep fun k ek => by cases ek; exact e2, h.ne, h.bB⟩
theorem Rw.glt (h : Rw B w b g cap c R) : B ≤ g ∧ g < w.heap.size := h.r.lt rfl
theorem Rw.blt (h : Rw B w b g cap c R) : b < w.heap.size := h.o.lt
theorem Rw.below (h : Rw B w b g cap c R) (hb : Below w.heap.size w w') : Rw B w' b g cap c R := h.keep (hb.block _ h.blt) (hb.block _ h.glt.2)
theorem Rw.bx {X : Nat → Prop} (h : Rw B w b g cap c R) (hb : Bx X w w') (h1 : ¬ X b) (h2 : ¬ X g) : Rw B w' b g cap c R := h.keep (hb.block _ h.blt h1) (hb.block _ h.glt.2 h2)
theorem Rw.row (h : Rw B w b g cap c R) (hp : 0 < R.length) : RdR w g R ∧ R.length ≤ cap ∧ cap ≤ maxLen ∧ ∀ i, w.frozen? ⟨g, i, none⟩ = false := by
  obtain ⟨g', cap', e, h1, h2, h3, h4, h5, h6⟩ := h.r.pos enL_len en0 hp
  cases e
  exact ⟨fun i hi j hj => h5 i j hi hj, h1, h2, h6⟩
theorem Rw.c4 (h : Rw B w b g cap c R) : w.cell? ⟨b, 4, none⟩ = some (.slice (some ⟨g, 0, none⟩) R.length cap) := h.o.cell 4
theorem Rw.set1 (h : Rw B w b g cap c R) {s i : Nat} (hs : s < R.length) (hi : i < 6) (u : Value) (y : En) (hy : enL y = (enL (ea R s)).set i u) : Rw B (w.setCell ⟨g, s * 6 + i, none⟩ u) b g cap c (R.set s y) := by
  have h1 := OwnG.set1 enL_len en0 h.r hs hi u y hy
  refine ⟨?_, by rw [List.length_set]; exact h1, h.ne, h.bB⟩
  rw [List.length_set]
  exact h.o.keep (Below.heap_setCell _ _ _ _ h.ne)
theorem Rw.set2 (h : Rw B w b g cap c R) {s i j : Nat} (hs : s < R.length) (hi : i < 6) (hj : j < 6) (u v : Value) (y : En) (hy : enL y = ((enL (ea R s)).set i u).set j v) : Rw B ((w.setCell ⟨g, s * 6 + i, none⟩ u).setCell ⟨g, s * 6 + j, none⟩ v) b g cap c (R.set s y) := by
  have h1 := OwnG.set2 enL_len en0 h.r hs hi hj u v y hy
  refine ⟨?_, by rw [List.length_set]; exact h1, h.ne, h.bB⟩
  rw [List.length_set]
  exact (h.o.keep (Below.heap_setCell _ _ _ _ h.ne)).keep (Below.heap_setCell _ _ _ _ h.ne)
end
/-- What add leaves. -/
def AdPost (B b g : Nat) (c : Cs) (R : List En) (a : Nat) (x : Int) (w : World) (e : Ending) (w' : World) : Prop :=
  e = .returned (.int .i64 (R.length : Int)) ∧ ∃ g' cap' bf bh, Goi R a x bf bh ∧ Fst R a (x - 1) bh ∧ Rw B w' b g' cap' c (addE R a x bf bh) ∧ Bx (fun j => j = b ∨ j = g) w w' ∧ (g' = g ∨ w.heap.size ≤ g')
theorem bx_set {X : Nat → Prop} {a w : World} (h : Bx X a w) {k : Nat} (hk : X k ∨ a.heap.size ≤ k) (i : Nat) (u : Value) : Bx X a (w.setCell ⟨k, i, none⟩ u) :=
  ⟨h.os, h.tape, h.output, by have := h.size; simpa [World.setCell] using this, fun j hj hx => (Below.heap_setCell w ⟨k, i, none⟩ u j (fun e => by
    rcases hk with hk | hk
    · exact hx (by rw [e]; exact hk)
    · have : j = k := e
      omega)).trans (h.block j hj hx)⟩
/-- Behind the append: the worlds. -/
theorem Rw.pushed {B : Nat} {w w1 w2 : World} {b g cap : Nat} {c : Cs} {R : List En} {e : En} {v : Value} {o : Obj} (h : Rw B w b g cap c R) (hb : Below w.heap.size w w1)
    (ho : OwnG 87 6 enL w2 B v (R ++ [e])) (hg : (w1.alloc o).grownBy w2 (some g)) (hat : ∀ k, v.ownBlock = some k → some g = some k ∨ k = (w1.alloc o).heap.size) :
    ∃ g' cap', v = .slice (some ⟨g', 0, none⟩) (R.length + 1) cap' ∧ w2.cell? ⟨b, 4, none⟩ = some (.slice (some ⟨g, 0, none⟩) R.length cap) ∧ w2.frozen? ⟨b, 4, none⟩ = false ∧ (g' = g ∨ w.heap.size ≤ g') ∧ Rw B (w2.setCell ⟨b, 4, none⟩ v) b g' cap' c (R ++ [e]) ∧ Bx (fun j => j = b ∨ j = g) w (w2.setCell ⟨b, 4, none⟩ v) ∧ RdR w2 g' (R ++ [e]) ∧ (∀ i, w2.frozen? ⟨g', i, none⟩ = false) ∧ b ≠ g' := by
  obtain ⟨g', cap', e', h1, h2, h3, h4, h5, h6⟩ := ho.pos enL_len en0 (by simp)
  rw [show (R ++ [e]).length = R.length + 1 by simp] at e'
  subst e'
  have hblt := h.blt
  have hz := hb.size
  have hbk : Bk w2 b (coC c R.length g cap) 65 := h.o.keep (by
    rw [hg.block b (by simp; omega) (fun q => by injection q with q; exact h.ne q), Below.heap_alloc _ _ _ (by omega), hb.block _ hblt])
  have hg' : g' = g ∨ w.heap.size ≤ g' := by
    rcases hat g' rfl with q | q
    · exact .inl (by injection q with q; exact q.symm)
    · right; simp at q; omega
  have hne : b ≠ g' := by
    rcases hg' with q | q
    · rw [q]; exact h.ne
    · omega
  refine ⟨g', cap', rfl, hbk.cell 4, hbk.frz 4, hg', ⟨?_, ?_, hne, h.bB⟩, ?_, fun i hi j hj => h5 i j hi hj, h6, hne⟩
  · have := hbk.set 4 (.slice (some ⟨g', 0, none⟩) (R.length + 1) cap')
    rw [show (R ++ [e]).length = R.length + 1 by simp]
    exact this
  · rw [show (R ++ [e]).length = R.length + 1 by simp]
    exact ho.keep fun k ek => by cases ek; exact Below.heap_setCell _ _ _ _ (fun q => hne q.symm)
  · refine Bx.setCell ?_ (p := ⟨b, 4, none⟩) (.inl rfl) _
    exact Bx.grown (Bx.alloc (Bx.of hb) o) hg fun k hk _ => .inr (by injection hk with hk; exact hk.symm)

set_option maxRecDepth 100000 in
set_option maxHeartbeats 2000000 in
theorem add_any {B : Nat} {w : World} {b g cap : Nat} {c : Cs} {R : List En} (bg : List (List Int)) (a : Nat) (x : Int) (h : Rw B w b g cap c R) (T : Tr R bg) (ha : a < R.length) (hl : R.length ≤ 1048576) (hB : B ≤ w.heap.size) :
    Calls Try.prog 58 #[.pointer (some ⟨b, 4, none⟩), .int .i64 a, .int .i64 x] w fun e w' => AdPost B b g c R a x w e w' := by
  have c4 := h.c4
  have hA := around_any R bg g cap a x w T (h.row T.pos).1 ha
  have HH := hide h
  have HT := hide T
  clear h T
  go_enter Try.func58, Try.ntmps58
  go_wp2_with fail
  refine hA.mono ?_
  rintro e w1 ⟨bf, bh, rfl, hgo, hfs, hb1⟩
  have h1 := (unhide HH).below hb1
  have c41 := h1.c4
  have HGO := hide hgo
  have HFS := hide hfs
  have hbf : bf < R.length := by
    rcases hgo with ⟨rfl, -⟩ | ⟨k, -⟩
    · exact (unhide HT).pos
    · exact k.2.1
  clear hgo hfs hA c4
  by_cases h0 : bf = 0
  · have t0 : ((bf : Int) == 0) = true := by simp [h0]
    have ha2 : a < (R ++ [(⟨a, x, 0, bh, false, 0⟩ : En)]).length := by simp; omega
    have hai : (a : Int) < ((R.length + 1 : Nat) : Int) := by omega
    have H0 := hide h0
    clear h0
    go_wp2_with (at_builtin; refine wplG_push eEnt rfl (.tmp 26) (.tmp 32) rfl B (.slice (some ⟨g, 0, none⟩) R.length cap) R rfl (h1.r.below (ballo _ _)) w1.heap.size 1 ⟨a, x, 0, bh, false, 0⟩ rfl (fun j u hj => ((Bk.new w1 (enL ⟨a, x, 0, bh, false, 0⟩) 87).cell j).trans hj) (by omega) (by unfold maxLen; omega) (by have := hb1.size; simp; omega) ?_; intro v' w2 ho2 hg2 hat2; obtain ⟨g', cap', rfl, d4, f4, hg', hrw, hbx, rr, hfz, hne⟩ := (unhide HH).pushed hb1 ho2 hg2 hat2; have hne2 : ¬ g' = b := fun q => hne q.symm; have k2 := rr.c ha2; have z2 := hfz (a * 6 + 2); have HRW := hide hrw; have HBX := hide hbx; have HG := hide hg'; clear ho2 hg2 hat2 hrw hbx hg' rr hfz)
    go_ret
    refine ⟨rfl, g', cap', bf, bh, unhide HGO, unhide HFS, ?_, ?_, unhide HG⟩
    · unfold addE
      rw [if_pos (unhide H0)]
      refine (unhide HRW).set1 ha2 (by omega) _ _ ?_
      rw [ea_left ha]; rfl
    · exact bx_set (unhide HBX) (by rcases unhide HG with q | q; exact .inl (.inr q); exact .inr q) _ _
  · have t0 : ((bf : Int) == 0) = false := by simp [h0]
    have ha2 : bf < (R ++ [(⟨a, x, 0, bh, false, 0⟩ : En)]).length := by simp; omega
    have hai : (bf : Int) < ((R.length + 1 : Nat) : Int) := by omega
    have H0 := hide h0
    clear h0
    go_wp2_with (at_builtin; refine wplG_push eEnt rfl (.tmp 26) (.tmp 32) rfl B (.slice (some ⟨g, 0, none⟩) R.length cap) R rfl (h1.r.below (ballo _ _)) w1.heap.size 1 ⟨a, x, 0, bh, false, 0⟩ rfl (fun j u hj => ((Bk.new w1 (enL ⟨a, x, 0, bh, false, 0⟩) 87).cell j).trans hj) (by omega) (by unfold maxLen; omega) (by have := hb1.size; simp; omega) ?_; intro v' w2 ho2 hg2 hat2; obtain ⟨g', cap', rfl, d4, f4, hg', hrw, hbx, rr, hfz, hne⟩ := (unhide HH).pushed hb1 ho2 hg2 hat2; have hne2 : ¬ g' = b := fun q => hne q.symm; have k2 := rr.n ha2; have z2 := hfz (bf * 6 + 3); have HRW := hide hrw; have HBX := hide hbx; have HG := hide hg'; clear ho2 hg2 hat2 hrw hbx hg' rr hfz)
    go_ret
    refine ⟨rfl, g', cap', bf, bh, unhide HGO, unhide HFS, ?_, ?_, unhide HG⟩
    · unfold addE
      rw [if_neg (unhide H0)]
      refine (unhide HRW).set1 ha2 (by omega) _ _ ?_
      rw [ea_left hbf]; rfl
    · exact bx_set (unhide HBX) (by rcases unhide HG with q | q; exact .inl (.inr q); exact .inr q) _ _

end Go.Proofs.Ytemalidanjfmkaa

/-
  What the program's keep holds on its way: the row, the path, the notes.
-/
namespace Go.Proofs.Ytemalidanjfmkaa
open Go.RowKit

theorem step_call3 {ops : Array Oper} {o : Oper} {a : Act} {w : World} {K : Act → World → Prop} {Q : Exit → Act → World → Prop} {F : Prop}
    (hg : o.guard = none) (f : Nat) (x y z : Operand) (ts : Array TypeId) (ho : o.op = .call { callee := .value (.func f), args := #[x, y, z], argTypes := ts })
    {fn : Func} (hfn : Try.prog.funcs[f]? = some fn) (hname : (fn.name == "runtime.NumGoroutine") = false) (hbody : fn.body.isNone = false)
    (u v t : Value) (hx : a.eval x = u) (hy : a.eval y = v) (hz : a.eval z = t) {R : Ending → World → Prop} (hc : Calls Try.prog f #[u, v, t] w R) (h : ∀ e w', R e w' → ∃ v, e = .returned v ∧ K (a.put o.dst v) w') :
    if Region.wanted o (yielded ops a.tmps) = true then Oper.wp Try.prog o a w K Q else F :=
  step_call hg f #[x, y, z] ts ho hfn hname hbody #[u, v, t] (by simp [hx, hy, hz]) hc h

/-- The row grown so far, and the path. -/
structure Kp (B Bp : Nat) (w0 w : World) (b g0 : Nat) (vp0 : Value) (c : Cs) (R0 : List En) (wd : List Int) (g cap : Nat) (R : List En) (P : List Nat) (vp : Value) (i : Nat) : Prop where
  rw : Rw B w b g cap c R
  tr : Tr R (frs wd i c.bg)
  pth : Pth (frs wd i c.bg) wd P
  pl : P.length = i
  op : OwnL .i64 3 w Bp vp (ni P)
  dp : ∀ k, vp.ownBlock = some k → k ≠ b ∧ k ≠ g
  old : ∀ y, y < R0.length → y < R.length ∧ (ea R y).kn = (ea R0 y).kn ∧ (ea R y).la = (ea R0 y).la
  new : ∀ y, R0.length ≤ y → y < R.length → (ea R y).kn = false
  bx : Bx (fun j => j = b ∨ j = g0 ∨ vp0.ownBlock = some j) w0 w
  hg : g = g0 ∨ w0.heap.size ≤ g
  hp : ∀ k, vp.ownBlock = some k → vp0.ownBlock = some k ∨ w0.heap.size ≤ k
section
variable {B Bp : Nat} {w0 w w1 w2 : World} {b g0 : Nat} {vp0 : Value} {c : Cs} {R0 : List En} {wd : List Int} {g cap : Nat} {R : List En} {P P0 : List Nat} {vp : Value} {i : Nat}
theorem Kp.drew (h : Kp B Bp w0 w b g0 vp0 c R0 wd g cap R P vp i) : Kp B Bp w0 w.drew b g0 vp0 c R0 wd g cap R P vp i :=
  ⟨h.rw.keep rfl rfl, h.tr, h.pth, h.pl, h.op.keep fun _ _ => rfl, h.dp, h.old, h.new, h.bx.drew, h.hg, h.hp⟩
/-- Behind add. -/
structure Ka (B Bp : Nat) (w0 w w1 : World) (b g0 : Nat) (vp0 : Value) (c : Cs) (R0 : List En) (wd : List Int) (R : List En) (P : List Nat) (vp : Value) (i : Nat) (g1 cap1 : Nat) (R1 : List En) : Prop where
  rw : Rw B w1 b g1 cap1 c R1
  tr : Tr R1 (frs wd (i + 1) c.bg)
  pth : Pth (frs wd (i + 1) c.bg) wd (P ++ [R.length])
  op : OwnL .i64 3 w1 Bp vp (ni P)
  dp : ∀ k, vp.ownBlock = some k → k ≠ b ∧ k ≠ g1
  old : ∀ y, y < R0.length → y < R1.length ∧ (ea R1 y).kn = (ea R0 y).kn ∧ (ea R1 y).la = (ea R0 y).la
  new : ∀ y, R0.length ≤ y → y < R1.length → (ea R1 y).kn = false
  bx : Bx (fun j => j = b ∨ j = g0 ∨ vp0.ownBlock = some j) w0 w1
  hg : g1 = g0 ∨ w0.heap.size ≤ g1
  hp : ∀ k, vp.ownBlock = some k → vp0.ownBlock = some k ∨ w0.heap.size ≤ k
  pl : P.length = i
theorem Kp.added (h : Kp B Bp w0 w b g0 vp0 c R0 wd g cap R P vp i) (T0 : Tr R0 c.bg) (hP0 : PthE c.bg wd P0) (h1 : P0.length ≤ i) (h2 : i ≤ wd.length) (hsy : ∀ j, j < wd.length → 0 ≤ wd.getD j 0 ∧ wd.getD j 0 < 64) {e : Ending}
    (hA : AdPost B b g c R (P.getD (i - 1) 0) (wd.getD (i - 1) 0) w e w1) : e = .returned (.int .i64 (R.length : Int)) ∧ ∃ g1 cap1 R1, Ka B Bp w0 w w1 b g0 vp0 c R0 wd R P vp i g1 cap1 R1 := by
  obtain ⟨he, g1, cap1, bf, bh, hgo, hfs, hrw, hbx, hg1⟩ := hA
  have hi0 := hP0.1.pos
  have hpl := h.pl
  obtain ⟨p1, p2⟩ := h.pth.at' (i - 1) (by omega)
  have ha : P.getD (i - 1) 0 < R.length := by rw [h.tr.len]; exact p1
  have hnew : wa (frs wd i c.bg) (P.getD (i - 1) 0) ++ [wd.getD (i - 1) 0] = wd.take i := by
    rw [p2, ← take_next (by omega), show i - 1 + 1 = i by omega]
  have hno := frs_out T0 hP0 h1 h2
  have hnx := frs_next T0 hP0 h1 h2
  have hb : bf < R.length := by
    rcases hgo with ⟨rfl, -⟩ | ⟨k, -⟩
    · exact h.tr.pos
    · exact k.2.1
  have T1 := h.tr.add ha hgo hfs (by rw [hnew]; exact hno) (hsy (i - 1) (by omega)).1 (hsy (i - 1) (by omega)).2
  rw [hnew, ← hnx] at T1
  have hlen := h.tr.len
  refine ⟨he, g1, cap1, _, hrw, T1, ?_, ?_, ?_, ?_, ?_, ?_, ?_, h.hp, h.pl⟩
  · rw [hnx]
    have hm : Pth (frs wd i c.bg ++ [wd.take i]) wd P := h.pth.mono fun j hj => ⟨by simp; omega, wa_left hj⟩
    refine hm.snoc (by omega) (by simp; omega) ?_
    rw [hlen, wa_new, hpl]
  · exact h.op.bx hbx fun k ek => by
      have := h.dp k ek
      rintro (q | q)
      · exact this.1 q
      · exact this.2 q
  · intro k ek
    refine ⟨(h.dp k ek).1, fun q => ?_⟩
    rcases hg1 with r | r
    · exact (h.dp k ek).2 (q.trans r)
    · have := (h.op.lt ek).2; omega
  · intro y hy
    have h3 := h.old y hy
    have h4 := addE_old (x := wd.getD (i - 1) 0) (bh := bh) ha hb h3.1
    exact ⟨by rw [addE_len]; omega, by rw [h4.2.2.1]; exact h3.2.1, by rw [h4.2.2.2.1]; exact h3.2.2⟩
  · intro y hy hy2
    rw [addE_len] at hy2
    by_cases hq : y < R.length
    · rw [(addE_old (x := wd.getD (i - 1) 0) (bh := bh) ha hb hq).2.2.1]; exact h.new y hy hq
    · obtain rfl : y = R.length := by omega
      rw [addE_new ha hb]
  · refine h.bx.trans hbx fun j hj q => ?_
    rcases q with q | q
    · exact .inl q
    · rcases h.hg with r | r
      · exact .inr (.inl (q.trans r))
      · omega
  · rcases hg1 with r | r
    · rw [r]; exact h.hg
    · right; have := h.bx.size; omega
/-- Behind the append to the path. -/
theorem Ka.pushed {g1 cap1 : Nat} {R1 : List En} {v : Value} {o : Obj} (h : Ka B Bp w0 w w1 b g0 vp0 c R0 wd R P vp i g1 cap1 R1) (ho : OwnL .i64 3 w2 Bp v (ni P ++ [(R.length : Int)])) (hgr : (w1.alloc o).grownBy w2 vp.ownBlock)
    (hat : ∀ k, v.ownBlock = some k → vp.ownBlock = some k ∨ k = (w1.alloc o).heap.size) : Kp B Bp w0 w2 b g0 vp0 c R0 wd g1 cap1 R1 (P ++ [R.length]) v (i + 1) := by
  have kk : ∀ k, k < w1.heap.size → vp.ownBlock ≠ some k → w2.heap[k]? = w1.heap[k]? := fun k hk hne => by
    rw [hgr.block k (by simp; omega) (fun q => hne q.symm), Below.heap_alloc _ _ _ hk]
  have hb1 := h.rw.blt
  have hg1 := h.rw.glt.2
  refine ⟨h.rw.keep (kk b hb1 fun q => (h.dp b q).1 rfl) (kk g1 hg1 fun q => (h.dp g1 q).2 rfl), h.tr, h.pth, by simp [h.pl], by rw [ni_snoc]; exact ho, ?_, h.old, h.new, ?_, h.hg, ?_⟩
  · intro k ek
    rcases hat k ek with q | q
    · exact h.dp k q
    · simp at q; exact ⟨by omega, by omega⟩
  · refine Bx.grown (h.bx.alloc o) hgr fun k hk hlt => ?_
    rcases h.hp k hk with q | q
    · exact .inr (.inr q)
    · omega
  · intro k ek
    rcases hat k ek with q | q
    · exact h.hp k q
    · right; simp at q; have := h.bx.size; omega
/-- The second loop: notes set so far. -/
structure Knk (B : Nat) (w0 w : World) (b g0 : Nat) (vp0 : Value) (c : Cs) (R0 : List En) (wd out : List Int) (g cap : Nat) (R : List En) (P : List Nat) (i : Nat) : Prop where
  rw : Rw B w b g cap c R
  nt : Nts c R0 wd out P i R
  bx : Bx (fun j => j = b ∨ j = g0 ∨ vp0.ownBlock = some j) w0 w
  hg : g = g0 ∨ w0.heap.size ≤ g
theorem Kp.notes {out : List Int} (h : Kp B Bp w0 w b g0 vp0 c R0 wd g cap R P vp (wd.length + 1)) : Knk B w0 w b g0 vp0 c R0 wd out g cap R P 0 :=
  ⟨h.rw, ⟨h.tr, fun y hy _ => ⟨fun hq => (h.old y hq).2, fun hq => h.new y hq hy⟩, fun t ht => by omega⟩, h.bx, h.hg⟩
theorem Knk.drew {out : List Int} (h : Knk B w0 w b g0 vp0 c R0 wd out g cap R P i) : Knk B w0 w.drew b g0 vp0 c R0 wd out g cap R P i := ⟨h.rw.keep rfl rfl, h.nt, h.bx.drew, h.hg⟩
theorem Knk.skip {out : List Int} (h : Knk B w0 w b g0 vp0 c R0 wd out g cap R P i) (hn : (nta c.kind wd out i).1 = false) : Knk B w0 w b g0 vp0 c R0 wd out g cap R P (i + 1) :=
  ⟨h.rw, ⟨h.nt.tr, fun y hy hq => h.nt.old y hy fun t ht e => hq t (by omega) e, fun t ht hk => by
    by_cases e : t = i
    · subst e; rw [hn] at hk; cases hk
    · exact h.nt.new t (by omega) hk⟩, h.bx, h.hg⟩
theorem Knk.note {out : List Int} (h : Knk B w0 w b g0 vp0 c R0 wd out g cap R P i) (hp : Pth (frsV c wd) wd P) (hi : i < P.length) (hn : (nta c.kind wd out i).1 = true) (u v : Value) (hu : u = .bool (nta c.kind wd out i).1) (hv : v = .int .i64 (nta c.kind wd out i).2) :
    ∃ R', Knk B w0 ((w.setCell ⟨g, P.getD i 0 * 6 + 4, none⟩ u).setCell ⟨g, P.getD i 0 * 6 + 5, none⟩ v) b g0 vp0 c R0 wd out g cap R' P (i + 1) ∧ R'.length = R.length := by
  obtain ⟨p1, p2⟩ := hp.at' i hi
  have ha : P.getD i 0 < R.length := by rw [h.nt.tr.len]; exact p1
  have inj : ∀ t, t < P.length → P.getD t 0 = P.getD i 0 → t = i := fun t ht e => by
    have q := (hp.at' t ht).2
    rw [e, p2] at q
    have := congrArg List.length q
    have hle := hp.le
    simp at this
    omega
  have hle := hp.le
  subst hu
  subst hv
  refine ⟨R.set (P.getD i 0) { ea R (P.getD i 0) with kn := (nta c.kind wd out i).1, la := (nta c.kind wd out i).2 }, ⟨h.rw.set2 ha (by omega) (by omega) _ _ _ rfl, ⟨?_, fun y hy hq => ?_, fun t ht hk => ?_⟩, ?_, h.hg⟩, by simp⟩
  · refine h.nt.tr.same (by simp) fun y hy => ?_
    rw [ea_set ha]
    by_cases e : y = P.getD i 0
    · subst e; rw [if_pos rfl]; exact ⟨rfl, rfl, rfl, rfl⟩
    · rw [if_neg e]; exact ⟨rfl, rfl, rfl, rfl⟩
  · rw [List.length_set] at hy
    have hyn : y ≠ P.getD i 0 := fun e => by
      have := hq i (by omega) e.symm
      rw [hn] at this; cases this
    rw [ea_set ha, if_neg hyn]
    exact h.nt.old y hy fun t ht e => hq t (by omega) e
  · by_cases e : t = i
    · subst e; rw [ea_set ha, if_pos rfl]; exact ⟨rfl, rfl⟩
    · by_cases htp : P.getD t 0 = P.getD i 0
      · by_cases htl : t < P.length
        · exact absurd (inj t htl htp) e
        · omega
      · rw [ea_set ha, if_neg htp]; exact h.nt.new t (by omega) hk
  · have hX : ∀ j, j = g → (j = b ∨ j = g0 ∨ vp0.ownBlock = some j) ∨ w0.heap.size ≤ j := fun j e => by
      rcases h.hg with q | q
      · exact .inl (.inr (.inl (e.trans q)))
      · right; omega
    exact bx_set (bx_set h.bx (hX g rfl) _ _) (hX g rfl) _ _
end

end Go.Proofs.Ytemalidanjfmkaa

/-
  The program's keep: what is known of a word's beginnings is noted down.
-/
namespace Go.Proofs.Ytemalidanjfmkaa
open Go.RowKit

/-- An empty list reads anywhere. -/
theorem RdL.bxz {q : IntKind} {w w' : World} {a : Option Addr} {l : List Int} {X : Nat → Prop} (h : RdL q w a l) (hb : Bx X w w') (hx : l.length ≠ 0 → ∀ x, a = some x → ¬ X x.block) : RdL q w' a l := by
  by_cases z : l.length = 0
  · exact .inl z
  · exact h.bx hb (hx z)
def KePost (B b g : Nat) (vp : Value) (c : Cs) (R : List En) (wd out : List Int) (w : World) (e : Ending) (w' : World) : Prop :=
  e = .returned (.tuple #[]) ∧ ∃ g' cap' R' P', Rw B w' b g' cap' c R' ∧ Pth (frsV c wd) wd P' ∧ P'.length = wd.length + 1 ∧ Nts c R wd out P' (wd.length + 1) R' ∧ Bx (fun j => j = b ∨ j = g ∨ vp.ownBlock = some j) w w' ∧ (g' = g ∨ w.heap.size ≤ g')

set_option maxRecDepth 100000 in
set_option maxHeartbeats 4000000 in
theorem keep_any {B Bp : Nat} {w : World} {b g cap : Nat} {c : Cs} {R : List En} (av : Option Addr) (cv : Nat) (P : List Nat) (a3 : Option Addr) (c3 : Nat) (wd out : List Int) (gn cn Bn : Nat) (h : Co B w b g cap c R) (hP : PthE c.bg wd P) (ho : OwnL .i64 3 w Bp (.slice av P.length cv) (ni P)) (hw : RdL .i64 w a3 wd)
    (hn : OwnG 85 2 ntC w Bn (.slice (some ⟨gn, 0, none⟩) (wd.length + 1) cn) (ntL c.kind wd out)) (hB : B ≤ w.heap.size) (hBp : Bp ≤ w.heap.size) (hb : b < Bp) (hg : g < Bp) (hgn : gn < Bp) (ha3 : wd.length ≠ 0 → ∀ x, a3 = some x → x.block < Bp ∧ x.block ≠ b ∧ x.block ≠ g) (hgn2 : gn ≠ b ∧ gn ≠ g)
    (hl : wd.length ≤ 1000000) (hsy : ∀ j, j < wd.length → 0 ≤ wd.getD j 0 ∧ wd.getD j 0 < 64) (hroom : ((frsV c wd).length : Int) ≤ c.most) :
    Calls Try.prog 41 #[.pointer (some ⟨b, 4, none⟩), .slice av P.length cv, .slice a3 wd.length c3, .slice (some ⟨gn, 0, none⟩) (wd.length + 1) cn] w fun e w' => KePost B b g (.slice av P.length cv) c R wd out w e w' := by
  have hpb : ∀ k, (Value.slice av P.length cv).ownBlock = some k → Bp ≤ k := fun k ek => (ho.lt ek).1
  have K0 : Kp B Bp w w b g (.slice av P.length cv) c R wd g cap R P (.slice av P.length cv) P.length := ⟨h.rw, by rw [hP.1.frs]; exact h.i.tr, by rw [hP.1.frs]; exact hP.1, rfl, ho, fun k ek => by have := hpb k ek; exact ⟨by omega, by omega⟩, fun y hy => ⟨hy, rfl, rfl⟩, fun y h1 h2 => by omega, Bx.refl _ _, .inl rfl, fun k ek => .inl ek⟩
  have HK0 := hide K0
  have HT := hide h.i.tr
  have HPE := hide hP
  have HSY := hide hsy
  have HM := hide h.i.pc.m1
  have HRM := hide hroom
  have HV : Hid (∀ wx, Bx (fun j => j = b ∨ j = g ∨ (Value.slice av P.length cv).ownBlock = some j) w wx → RdL .i64 wx a3 wd ∧ OwnG 85 2 ntC wx Bn (.slice (some ⟨gn, 0, none⟩) (wd.length + 1) cn) (ntL c.kind wd out)) := fun wx hx =>
    ⟨hw.bxz hx fun hz x ex => by
        have h1 := ha3 hz x ex
        rintro (q | q | q)
        · exact h1.2.1 q
        · exact h1.2.2 q
        · have := hpb _ q; omega, hn.keep fun k ek => by
        cases ek
        refine hx.block gn (hn.lt rfl).2 ?_
        rintro (q | q | q)
        · exact hgn2.1 q
        · exact hgn2.2 q
        · have := hpb _ q; omega⟩
  have hpos := hP.1.pos
  have hple := hP.1.le
  clear h hP ho hw hn ha3 hgn2 hsy hroom K0 hpb
  go_enter Try.func41, Try.ntmps41
  go_wp2
  go_loopw [1, 8] (fun v i wr => ∃ (j g1 cap1 : Nat) (R1 : List En) (P1 : List Nat), i = .int .i64 j ∧ j ≤ wd.length + 1 ∧ P.length ≤ j ∧ Hid (Kp B Bp w wr b g (.slice av P.length cv) c R wd g1 cap1 R1 P1 v j)) (fun _ i _ => wd.length + 1 - (intOf i).toNat)
  case atStart => exact ⟨P.length, g, cap, R, P, rfl, hple, Nat.le_refl _, HK0⟩
  case round =>
    obtain ⟨j, g1, cap1, R1, P1, rfl, hj, hj2, HK⟩ := hrel
    obtain ⟨av1, cv1, ev, -, hcv1, hcm1, hrd1, hbl1⟩ := (unhide HK).op.shape
    have hp1 := (unhide HK).pl
    rw [ni_len, hp1] at ev hcv1
    subst ev
    by_cases hlt : j ≤ wd.length
    · have hlt' : (j : Int) ≤ (wd.length : Int) := by omega
      have hv := unhide HV wr (unhide HK).bx
      obtain ⟨b3, off3, rfl, hc3⟩ := hv.1.at (i := j - 1) (by omega)
      have x3 := hc3 (j - 1) (by omega)
      obtain ⟨bp, offp, rfl, hcp⟩ := hrd1.at (i := j - 1) (by rw [ni_len]; omega)
      have xp := hcp (j - 1) (by rw [ni_len]; omega)
      rw [ni_at] at xp
      have e1 : (j : Int) - 1 = ((j - 1 : Nat) : Int) := by omega
      have hwr : IntKind.i64.wrap ((j - 1 : Nat) : Int) = ((j - 1 : Nat) : Int) := by rw [IntKind.wrap_i64]; omega
      have i1 : ((j - 1 : Nat) : Int) < (j : Int) := by omega
      have i2 : ((j - 1 : Nat) : Int) < (wd.length : Int) := by omega
      have hR1 : R1.length ≤ 1048576 := by
        have h1 := (unhide HK).tr.len
        have h2 := unhide HM
        have h3 := unhide HRM
        obtain ⟨n, hn⟩ : ∃ n, j = P.length + n := ⟨j - P.length, by omega⟩
        have h4 := frs_len (unhide HT) (unhide HPE) n (by omega)
        have h5 := frsV_len (unhide HT) (unhide HPE)
        rw [hn] at h1
        omega
      have hadd : Calls Try.prog 58 #[.pointer (some ⟨b, 4, none⟩), .int .i64 (P1.getD (j - 1) 0 : Nat), .int .i64 (wd.getD (j - 1) 0)] wr.drew fun e w' => AdPost B b g1 c R1 (P1.getD (j - 1) 0) (wd.getD (j - 1) 0) wr.drew e w' :=
        add_any (frs wd j c.bg) (P1.getD (j - 1) 0) (wd.getD (j - 1) 0) (unhide HK).drew.rw (unhide HK).tr (by rw [(unhide HK).tr.len]; exact ((unhide HK).pth.at' (j - 1) (by omega)).1) hR1 (by have := (unhide HK).bx.size; show B ≤ wr.heap.size; omega)
      have HAF : Hid (∀ e w1, AdPost B b g1 c R1 (P1.getD (j - 1) 0) (wd.getD (j - 1) 0) wr.drew e w1 → e = .returned (.int .i64 (R1.length : Int)) ∧ ∃ g2 cap2 R2, Ka B Bp w wr.drew w1 b g (.slice av P.length cv) c R wd R1 P1 (.slice (some ⟨bp, offp, none⟩) j cv1) j g2 cap2 R2) := fun e w1 hA => (unhide HK).drew.added (unhide HT) (unhide HPE) hj2 hlt (unhide HSY) hA
      have hnl : (ni P1).length = j := by rw [ni_len]; exact hp1
      have hBz : Bp ≤ wr.heap.size := by have := (unhide HK).bx.size; omega
      generalize P1.getD (j - 1) 0 = A at *
      generalize wd.getD (j - 1) 0 = X at *
      clear hc3 hcp hv hrd1 hp1 hbl1
      go_wp2
      go_region_law (first
        | (refine step_call3 rfl 58 (.tmp 20) (.tmp 25) (.tmp 30) #[96, 3, 3] rfl Try.func58 (by kernel_rfl) (by kernel_rfl) (.pointer (some ⟨b, 4, none⟩)) (.int .i64 (A : Nat)) (.int .i64 X) (by rfl) (by rfl) (by rfl) hadd ?_; intro e w1 hA; obtain ⟨rfl, g2, cap2, R2, hka⟩ := unhide HAF e w1 hA; refine ⟨_, rfl, ?_⟩; have HKA := hide hka; clear hA hka)
        | (refine step_pushA eInt rfl (.tmp 19) (.tmp 32) rfl Bp (.slice (some ⟨bp, offp, none⟩) j cv1) (ni P1) (by rfl) ((unhide HKA).op.alloc _) ⟨w1.heap.size, 0, none⟩ 1 [(R1.length : Int)] (by rfl) (RdL.one _ _) (by rw [hnl]; simp only [List.length_cons, List.length_nil]; omega) (by have := (unhide HKA).bx.size; simp; omega) ?_; intro v2 w2 ho2 hb2 hg2 hat2; have HKP := hide ((unhide HKA).pushed ho2 hg2 hat2); clear ho2 hb2 hg2 hat2))
      all_goals
        go_wp2
        go_roundw
        case rel => exact ⟨j + 1, g2, cap2, R2, P1 ++ [R1.length], by go_num, by omega, by omega, HKP⟩
        case measure => simp [intOf]; omega
    · obtain rfl : j = wd.length + 1 := by omega
      have hlt' : ¬ (((wd.length + 1 : Nat) : Int) ≤ (wd.length : Int)) := by omega
      have HN0 := hide ((unhide HK).notes (out := out))
      have HPT : Hid (Pth (frsV c wd) wd P1) := (unhide HK).pth
      have HRD : Hid (∀ wx, Bx (fun j => j = g1) wr wx → RdL .i64 wx av1 (ni P1)) := fun wx hx => hrd1.bx hx fun x ex q => by
        subst ex
        obtain ⟨k, hk, hk2⟩ : ∃ k, (Value.slice (some x) (wd.length + 1) cv1).ownBlock = some k ∧ k = x.block := ⟨x.block, rfl, rfl⟩
        exact ((unhide HK).dp k hk).2 (hk2.trans q)
      have HPL := hide hp1
      clear hrd1 hbl1 hp1 hcv1 hcm1 HK0 HSY HRM HM HPE HT
      go_wp2
      go_loopw [36] (fun i wx => ∃ (k : Nat) (R2 : List En), i = .int .i64 k ∧ k ≤ wd.length + 1 ∧ Hid (Knk B w wx b g (.slice av P.length cv) c R wd out g1 cap1 R2 P1 k) ∧ Hid (Bx (fun j => j = g1) wr wx)) (fun i _ => wd.length + 1 - (intOf i).toNat)
      case atStart => exact ⟨0, R1, rfl, Nat.zero_le _, HN0, Bx.refl _ _⟩
      case round =>
        obtain ⟨k, R2, rfl, hk, HKN, HBR⟩ := hrel
        have hkn := unhide HKN
        have HNX := hide (unhide HV wr hkn.bx).2
        by_cases hlt2 : k < wd.length + 1
        · have hlt3 : (k : Int) < ((wd.length + 1 : Nat) : Int) := by omega
          obtain ⟨bp, offp, rfl, hcp⟩ := (unhide HRD wr (unhide HBR)).at (i := k) (by rw [ni_len, unhide HPL]; exact hlt2)
          have xp := hcp k (by rw [ni_len, unhide HPL]; exact hlt2)
          rw [ni_at] at xp
          obtain ⟨y0, y1, -, -, -⟩ := note_cells2 (unhide HNX) (ntL_len _ _ _) hlt2
          rw [ntL_at hlt2] at y0 y1
          have hA : P1.getD k 0 < R2.length := by rw [hkn.nt.tr.len]; exact ((unhide HPT).at' k (by rw [unhide HPL]; exact hlt2)).1
          have hA' : ((P1.getD k 0 : Nat) : Int) < (R2.length : Int) := by omega
          obtain ⟨rr, -, -, hfz⟩ := hkn.rw.row (by omega)
          have r4 := rr.kn hA
          have r5 := rr.la hA
          have z4 := hfz (P1.getD k 0 * 6 + 4)
          have z5 := hfz (P1.getD k 0 * 6 + 5)
          have c4 := hkn.rw.c4
          obtain ⟨t1, ht1⟩ : ∃ t, t = (nta c.kind wd out k).1 := ⟨_, rfl⟩
          obtain ⟨t2, ht2⟩ : ∃ t, t = (nta c.kind wd out k).2 := ⟨_, rfl⟩
          rw [← ht1] at y0
          rw [← ht2] at y1
          cases t1 with
          | false =>
            have HS := hide (hkn.skip ht1.symm)
            clear hcp rr hfz hkn r4 r5 z4 z5 c4 y1 hA ht1 ht2
            generalize P1.getD k 0 = A at *
            go_wp2
            go_roundw
            case rel => exact ⟨k + 1, R2, by go_num, by omega, HS, HBR⟩
            case measure => simp [intOf]; omega
          | true =>
            have HS := hide (hkn.note (unhide HPT) (by rw [unhide HPL]; exact hlt2) ht1.symm (.bool true) (.int .i64 t2) (by rw [← ht1]) (by rw [← ht2]))
            clear hcp rr hfz hkn hA ht1 ht2
            generalize P1.getD k 0 = A at *
            generalize (ea R2 A).kn = o1 at *
            generalize (ea R2 A).la = o2 at *
            go_wp2
            go_region
            all_goals
              obtain ⟨R3, hk3, -⟩ := unhide HS
              have HK3 := hide hk3.drew
              have HB3 := hide ((((unhide HBR).setCell (p := ⟨g1, A * 6 + 4, none⟩) rfl (.bool true)).setCell (p := ⟨g1, A * 6 + 5, none⟩) rfl (.int .i64 t2)).drew)
              clear hk3 HS
              go_wp2
              go_roundw
              case rel => exact ⟨k + 1, R3, by go_num, by omega, HK3, HB3⟩
              case measure => simp [intOf]; omega
        · obtain rfl : k = wd.length + 1 := by omega
          have HF : Hid (KePost B b g (.slice av P.length cv) c R wd out w (.returned (.tuple #[])) wr) := ⟨rfl, g1, cap1, R2, P1, hkn.rw, unhide HPT, unhide HPL, hkn.nt, hkn.bx, hkn.hg⟩
          clear hkn
          go_wp2
          go_end0
          exact unhide HF

end Go.Proofs.Ytemalidanjfmkaa

/-
  The program's Put.
-/
namespace Go.Proofs.Ytemalidanjfmkaa
open Go.RowKit

def PuPost (B b g : Nat) (c : Cs) (wd out : List Int) (w : World) (e : Ending) (w' : World) : Prop :=
  e = .returned (.int .i64 (putV c wd out).2) ∧ ∃ g' cap' R', Co B w' b g' cap' (putV c wd out).1 R' ∧ Bx (fun j => j = b ∨ j = g) w w' ∧ (g' = g ∨ w.heap.size ≤ g')
theorem fitC_or (c : Cs) (wd out : List Int) : fitC c wd out = 0 ∨ fitC c wd out = 100 := by
  unfold fitC chkA
  rw [if_neg (by simp), if_neg (by simp)]
  split
  · exact .inl rfl
  · exact .inr rfl
section
variable {B : Nat} {w w' : World} {b g cap : Nat} {c : Cs} {R : List En} {wd out : List Int}
theorem putV_1 (h : wdE wd c.k ≠ 0) : putV c wd out = (c, wdE wd c.k) := by unfold putV; rw [if_pos h]
theorem putV_2 (h : wdE wd c.k = 0) (h2 : fitC c wd out ≠ 0) : putV c wd out = (c, 100) := by
  have h3 := (fitC_or c wd out).resolve_left h2
  unfold putV fitC at *
  rw [if_neg (by omega), if_pos h2, h3]
theorem putV_3 (h : wdE wd c.k = 0) (h2 : fitC c wd out = 0) (h3 : clsV c wd out = true) : putV c wd out = (c, 111) := by
  unfold putV fitC at *
  rw [if_neg (by omega), if_neg (by omega), if_pos h3]
theorem putV_4 (h : wdE wd c.k = 0) (h2 : fitC c wd out = 0) (h3 : clsV c wd out = false) (h4 : c.most < ((frsV c wd).length : Int)) : putV c wd out = (c, 110) := by
  unfold putV fitC at *
  rw [if_neg (by omega), if_neg (by omega), if_neg (by rw [h3]; simp), if_pos h4]
theorem putV_5 (h : wdE wd c.k = 0) (h2 : fitC c wd out = 0) (h3 : clsV c wd out = false) (h4 : ((frsV c wd).length : Int) ≤ c.most) : (putV c wd out).2 = 0 := by
  unfold putV fitC at *
  rw [if_neg (by omega), if_neg (by omega), if_neg (by rw [h3]; simp), if_neg (by omega)]
theorem Co.same (h : Co B w b g cap c R) (hb : Below w.heap.size w w') {E : Int} (he : putV c wd out = (c, E)) : PuPost B b g c wd out w (.returned (.int .i64 E)) w' := by
  refine ⟨by rw [he], g, cap, R, by rw [he]; exact h.below hb, Bx.of hb, .inl rfl⟩
end

set_option maxRecDepth 100000 in
set_option maxHeartbeats 4000000 in
theorem put_gen {B : Nat} {w : World} {b g cap : Nat} {c : Cs} {R : List En} (a1 : Option Addr) (c1 : Nat) (wd : List Int) (a2 : Option Addr) (c2 : Nat) (out : List Int) (h : Co B w b g cap c R) (h1 : RdL .i64 w a1 wd) (h2 : RdL .i64 w a2 out) (l1 : wd.length ≤ maxLen) (l2 : out.length ≤ maxLen) (ha1 : wd.length ≠ 0 → ∀ x, a1 = some x → x.block < w.heap.size ∧ x.block ≠ b ∧ x.block ≠ g) (hB : B ≤ w.heap.size) :
    Calls Try.prog 15 #[.pointer (some ⟨b, 0, none⟩), .slice a1 wd.length c1, .slice a2 out.length c2] w fun e w' => PuPost B b g c wd out w e w' := by
  have hmd := isMade_any h
  have hck := check_any a1 wd.length c1 (fun i => wd.getD i 0) c.k w h1.rd l1
  have hft := cfits_any a1 c1 wd a2 c2 out h h2 l2
  have k1 := h.c1
  have HH := hide h
  have H1 := hide h1
  have H2 := hide h2
  have HA1 := hide ha1
  obtain ⟨ck, hcke⟩ : ∃ ck, ck = (chkV wd.length (fun i => wd.getD i 0) c.k).1 := ⟨_, rfl⟩
  rw [← hcke, show (chkV wd.length (fun i => wd.getD i 0) c.k).2 = wdE wd c.k from rfl] at hck
  clear h h1 h2 ha1 hcke
  go_enter Try.func15, Try.ntmps15
  go_wp2_with fail
  refine hmd.mono ?_
  rintro e w1 ⟨rfl, rfl⟩
  go_wp2_with fail
  refine hck.mono ?_
  rintro e w2 ⟨rfl, rfl⟩
  clear hmd hck k1
  by_cases hw0 : wdE wd c.k = 0
  rotate_left
  · have t0 : (wdE wd c.k != 0) = true := by simp [hw0]
    have HF := hide ((unhide HH).same (Below.refl _ _) (putV_1 (out := out) hw0))
    generalize wdE wd c.k = E at *
    clear hft hw0
    go_wp2
    go_ret
    exact unhide HF
  rw [hw0]
  have hiw := word_of_chk (show (chkV wd.length (fun i => wd.getD i 0) c.k).2 = 0 from hw0)
  have hlen : wd.length ≤ 4096 := hiw.2.2.1
  have HSY : Hid (∀ j, j < wd.length → 0 ≤ wd.getD j 0 ∧ wd.getD j 0 < 64) := fun j hj => by
    have h3 : 0 ≤ wd.getD j 0 ∧ wd.getD j 0 < c.k := hiw.2.2.2 j hj
    have h4 := (unhide HH).i.pc.k2
    exact ⟨h3.1, by omega⟩
  have HW0 := hide hw0
  clear hw0 hiw
  go_wp2_with fail
  refine hft.mono ?_
  rintro e w3 ⟨rfl, hb3⟩
  have h3 := (unhide HH).below hb3
  clear hft
  by_cases hf0 : fitC c wd out = 0
  rotate_left
  · have t0 : (fitC c wd out == 0) = false := by simp [hf0]
    have HF := hide ((unhide HH).same hb3 (putV_2 (unhide HW0) hf0))
    rw [t0]
    clear hf0 h3
    go_wp2
    go_ret
    exact unhide HF
  have t0 : (fitC c wd out == 0) = true := by simp [hf0]
  rw [t0]
  have HF0 := hide hf0
  have hout := chk_out (show chkA ⟨1, wd, ⟨c.kind, c.k, c.o, 0, [], []⟩⟩ ⟨1, out, []⟩ = 0 from hf0)
  have hnt := notes_any a1 c1 wd a2 c2 out h3 ((unhide H2).below hb3) (by omega) hout
  clear hf0 t0 h3 hout
  go_wp2_with fail
  refine hnt.mono ?_
  rintro e w4 ⟨vn, rfl, hn, hb4⟩
  have hb4' := bstep hb3 hb4
  have h4 := (unhide HH).below hb4'
  have hwk := walk_any R c g cap a1 c1 wd w4 h4.i.tr h4.row.1 ((unhide H1).below hb4') (by omega)
  have k4 := h4.c4
  obtain ⟨gn, cn, en, n1, n2, n3, n4, n5, n6⟩ := hn.pos ntC_len (false, 0) (by rw [ntL_len]; omega)
  rw [ntL_len] at en
  subst en
  have HN := hide hn
  clear hnt hn n5 n6 h4
  go_wp2_with fail
  refine hwk.mono ?_
  rintro e w5 ⟨vp, P, rfl, hP, hp, hb5⟩
  have hb5' := bstep hb4' hb5
  have h5 := (unhide HH).below hb5'
  obtain ⟨av, cv, ev, p1, p2, p3, p4, p5⟩ := hp.shape
  rw [ni_len] at ev p2
  subst ev
  have hn5 := (unhide HN).below hb5
  have hcl := clashes_any R g cap av cv P gn cn (ntL c.kind wd out) _ w5 h5.row.1 p4 (fun j hj => by rw [h5.i.tr.len]; exact (hP.1.at' j hj).1) (by rw [ntL_len]; exact hn5) (by rw [ntL_len]; exact hP.1.le) (by rw [ntL_len]; omega)
  rw [ntL_len] at hcl
  have k4 := h5.c4
  have HP := hide hP
  have HPO := hide hp
  have HCL : Hid (clJ R (ntL c.kind wd out) P P.length = clsV c wd out) := by
    show _ = _
    have hq := (unhide HH).i.clash hP (unhide HF0)
    have hple := hP.1.le
    cases hv : clsV c wd out with
    | true =>
      obtain ⟨i, hi, he⟩ := hq.1 hv
      exact clJ_hit hi (by rw [ntL_at (by omega)]; exact he)
    | false =>
      unfold clJ
      rw [List.any_eq_false]
      intro i hi he
      have hi' := List.mem_range.1 hi
      rw [ntL_at (by omega)] at he
      rw [hq.2 ⟨i, hi', he⟩] at hv
      cases hv
  rw [unhide HCL] at hcl
  have hpl := hP.1.pos
  have hple := hP.1.le
  clear hwk p4 h5 hP hp hn5
  go_wp2_with fail
  refine hcl.mono ?_
  rintro e w6 ⟨rfl, hb6⟩
  have hb6' := bstep hb5' hb6
  have h6 := (unhide HH).below hb6'
  clear hcl k4
  by_cases hc0 : clsV c wd out = true
  · have HF := hide ((unhide HH).same hb6' (putV_3 (unhide HW0) (unhide HF0) hc0))
    rw [hc0]
    clear hc0 h6
    go_wp2
    go_ret
    exact unhide HF
  have hc1 : clsV c wd out = false := by simpa using hc0
  rw [hc1]
  have k4 := h6.c4
  have k3 := h6.c3
  have hfl := frsV_len h6.i.tr (unhide HP)
  have hRl := h6.len
  have hRb := h6.i.tr.len
  have hmm := h6.i.pc.m1
  have HC1 := hide hc1
  have w1' : (R.length : Int) + ((wd.length + 1 : Nat) : Int) - (P.length : Int) = ((frsV c wd).length : Int) := by omega
  have HPB : Hid (∀ x, av = some x → w4.heap.size ≤ x.block ∧ x.block < w5.heap.size) := p5
  have HRB := hide hRb
  have HR0 := hide hRl.1
  have hR1 := hRl.2
  obtain ⟨F, hF⟩ : ∃ F, F = (frsV c wd).length := ⟨_, rfl⟩
  rw [← hF] at w1' hfl
  have HFE := hide hF
  have HFL := hide hfl
  clear hc0 hc1 hRb hRl hF hfl p5 p1 n1 n2 l1 l2
  by_cases hr : c.most < (F : Int)
  · have HF : Hid (∀ n, PuPost B b g c wd out w2 (.returned (.int .i64 110)) (w6.drewN n)) := fun n => (unhide HH).same (below_drewN hb6' n) (putV_4 (unhide HW0) (unhide HF0) (unhide HC1) (by rw [← unhide HFE]; exact hr))
    clear h6
    go_wp2
    go_quiet (fail)
    go_wp2
    go_ret
    exact unhide HF _
  · have hr' : (F : Int) ≤ c.most := by omega
    have HRR := hide hr'
    clear h6
    go_wp2
    go_quiet (fail)
    have hb7 : Below w2.heap.size w2 (w6.drewN nq) := below_drewN hb6' nq
    have hb57 : Below w5.heap.size w5 (w6.drewN nq) := below_drewN hb6 nq
    have h7 := (unhide HH).below hb7
    have z4 := hb4'.size
    have z5 := hb5.size
    have z3 := hb3.size
    have z6 := hb6.size
    have hblt := (unhide HH).blt
    have hglt := (unhide HH).glt.2
    have hn7 := ((unhide HN).below hb5).below hb57
    have hke := keep_any (Bp := w4.heap.size) av cv P a1 c1 wd out gn cn _ h7 (unhide HP) ((unhide HPO).grown hb57) ((unhide H1).below hb7) hn7 (by have := hb7.size; omega) (by have := hb57.size; omega) (by omega) (by omega) n4 (fun hz x ex => by
      have h9 := unhide HA1 hz x ex
      exact ⟨by omega, h9.2.1, h9.2.2⟩) ⟨by omega, by omega⟩ (by omega) (unhide HSY) (by rw [← unhide HFE]; exact unhide HRR)
    have HF : Hid (∀ e w8, KePost B b g (.slice av P.length cv) c R wd out (w6.drewN nq) e w8 → e = .returned (.tuple #[]) ∧ PuPost B b g c wd out w2 (.returned (.int .i64 0)) w8) := fun e w8 hp => by
      obtain ⟨he, g', cap', R', P', k1, k2, k3, k4, k5, k6⟩ := hp
      have hok : (putV c wd out).2 = 0 := putV_5 (unhide HW0) (unhide HF0) (unhide HC1) (by rw [← unhide HFE]; exact unhide HRR)
      refine ⟨he, by rw [hok], g', cap', R', ⟨?_, k1.r, Nts.end h7.i hok k2 k3 k4, k1.ne, k1.bB⟩, ?_, ?_⟩
      · rw [(put_ok hok).1]; exact k1.o
      · refine (Bx.of hb7).trans k5 fun j hj q => ?_
        rcases q with q | q | q
        · exact .inl q
        · exact .inr q
        · cases av with
          | none => cases q
          | some x =>
            have h9 := unhide HPB x rfl
            have h10 : x.block = j := by
              obtain ⟨xb, xo, xm⟩ := x
              have := ((unhide HPO).lt q).1
              omega
            omega
      · rcases k6 with q | q
        · exact .inl q
        · right; have := hb7.size; omega
    clear h7 hn7 z4 z5 z3 z6 hblt hglt hb57 k3
    go_wp2_with fail
    refine hke.mono ?_
    intro e w8 hp
    obtain ⟨rfl, hpp⟩ := unhide HF e w8 hp
    have HPP := hide hpp
    clear hp hpp hke HF
    go_wp2
    go_ret
    exact unhide HPP

theorem put_any {B : Nat} {w : World} {b g cap : Nat} {c : Cs} {R : List En} (a1 : Option Addr) (c1 : Nat) (wd : List Int) (a2 : Option Addr) (c2 : Nat) (out : List Int) (h : Co B w b g cap c R) (h1 : RdL .i64 w a1 wd) (h2 : RdL .i64 w a2 out) (l1 : wd.length ≤ maxLen) (l2 : out.length ≤ maxLen) (ha1 : ∀ x, a1 = some x → x.block < w.heap.size ∧ x.block ≠ b ∧ x.block ≠ g) (hB : B ≤ w.heap.size) :
    Calls Try.prog 15 #[.pointer (some ⟨b, 0, none⟩), .slice a1 wd.length c1, .slice a2 out.length c2] w fun e w' => PuPost B b g c wd out w e w' :=
  put_gen a1 c1 wd a2 c2 out h h1 h2 l1 l2 (fun _ => ha1) hB

end Go.Proofs.Ytemalidanjfmkaa

/-
  The program's New.
-/
namespace Go.Proofs.Ytemalidanjfmkaa
open Go.RowKit

theorem newRow_any (k : Bool) (w : World) : Calls Try.prog 33 #[.bool k] w fun e w' => e = .returned (.slice (some ⟨w.heap.size, 0, none⟩) 1 1) ∧ w' = w.alloc (.cells #[.int .i64 0, .int .i64 0, .int .i64 0, .int .i64 0, .bool k, .int .i64 0] 87) := by
  go_enter Try.func33, Try.ntmps33
  go_wp2
  go_ret
  exact ⟨rfl, rfl⟩
def houV (kind o : Int) : Bool := if kind = 1 then decide (o = 2) else decide (1 ≤ o ∧ o ≤ 64)
theorem haveOutputs_any (kind o : Int) (w : World) : Calls Try.prog 32 #[.int .i64 kind, .int .i64 o] w fun e w' => e = .returned (.bool (houV kind o)) ∧ w' = w := by
  by_cases k : kind = 1
  · have t : (kind == 1) = true := by simp [k]
    by_cases h : o = 2
    · have t2 : (o == 2) = true := by simp [h]
      have HV := hide (show houV kind o = true by unfold houV; rw [if_pos k]; simp [h])
      clear k h
      go_enter Try.func32, Try.ntmps32
      go_wp2
      go_ret
      exact ⟨by rw [unhide HV]; rfl, rfl⟩
    · have t2 : (o == 2) = false := by simp [h]
      have HV := hide (show houV kind o = false by unfold houV; rw [if_pos k]; simp [h])
      clear k h
      go_enter Try.func32, Try.ntmps32
      go_wp2
      go_ret
      exact ⟨by rw [unhide HV]; rfl, rfl⟩
  · have t : (kind == 1) = false := by simp [k]
    by_cases h1 : 1 ≤ o
    · by_cases h2 : o ≤ 64
      · have HV := hide (show houV kind o = true by unfold houV; rw [if_neg k]; simp [h1, h2])
        clear k
        go_enter Try.func32, Try.ntmps32
        go_wp2
        go_ret
        exact ⟨by rw [unhide HV]; rfl, rfl⟩
      · have HV := hide (show houV kind o = false by unfold houV; rw [if_neg k]; simp [h2])
        clear k
        go_enter Try.func32, Try.ntmps32
        go_wp2
        go_ret
        exact ⟨by rw [unhide HV]; rfl, rfl⟩
    · have HV := hide (show houV kind o = false by unfold houV; rw [if_neg k]; simp [h1])
      clear k
      go_enter Try.func32, Try.ntmps32
      go_wp2
      go_ret
      exact ⟨by rw [unhide HV]; rfl, rfl⟩

def NePost (kind k o most : Int) (w : World) (e : Ending) (w' : World) : Prop :=
  Below w.heap.size w w' ∧ ((newE kind k o most ≠ 0 ∧ e = .returned (.tuple #[.pointer none, .int .i64 (newE kind k o most)])) ∨
    (newE kind k o most = 0 ∧ ∃ b g cap R, e = .returned (.tuple #[.pointer (some ⟨b, 0, none⟩), .int .i64 0]) ∧ Co w.heap.size w' b g cap (newV kind k o most) R ∧ w.heap.size ≤ b ∧ w.heap.size ≤ g))

set_option maxRecDepth 100000 in
set_option maxHeartbeats 2000000 in
theorem new_any (kind k o most : Int) (w : World) : Calls Try.prog 11 #[.int .i64 kind, .int .i64 k, .int .i64 o, .int .i64 most] w fun e w' => NePost kind k o most w e w' := by
  by_cases h1 : kind ≠ 1 ∧ kind ≠ 2
  · have t1 : (kind != 1) = true := by simp [h1.1]
    have t2 : (kind != 2) = true := by simp [h1.2]
    have HE : Hid (newE kind k o most = 30) := by show _ = _; unfold newE; rw [if_pos h1]
    go_enter Try.func11, Try.ntmps11
    go_wp2
    go_ret2
    exact ⟨Below.refl _ _, .inl ⟨by rw [unhide HE]; decide, by rw [unhide HE]; rfl⟩⟩
  by_cases h2 : k < 1 ∨ 64 < k
  · have HE : Hid (newE kind k o most = 1) := by show _ = _; unfold newE; rw [if_neg h1, if_pos h2]
    rcases (show kind = 1 ∨ kind = 2 by omega) with rfl | rfl
    all_goals
      by_cases h3 : k < 1
      · go_enter Try.func11, Try.ntmps11
        go_wp2
        go_ret2
        exact ⟨Below.refl _ _, .inl ⟨by rw [unhide HE]; decide, by rw [unhide HE]; rfl⟩⟩
      · have h4 : 64 < k := by omega
        go_enter Try.func11, Try.ntmps11
        go_wp2
        go_ret2
        exact ⟨Below.refl _ _, .inl ⟨by rw [unhide HE]; decide, by rw [unhide HE]; rfl⟩⟩
  have k1 : ¬ k < 1 := by omega
  have k2 : ¬ 64 < k := by omega
  have hho := haveOutputs_any kind o w
  by_cases h3 : (kind = 1 ∧ o ≠ 2) ∨ o < 1 ∨ 64 < o
  · have HE : Hid (newE kind k o most = 33) := by show _ = _; unfold newE; rw [if_neg h1, if_neg h2, if_pos h3]
    rw [show houV kind o = false by
      unfold houV
      by_cases c : kind = 1
      · rw [if_pos c]; simp; omega
      · rw [if_neg c]; simp; omega] at hho
    have t1 : (kind != 1) = true ∧ (kind != 2) = false ∨ (kind != 1) = false := by
      rcases (show kind = 1 ∨ kind = 2 by omega) with rfl | rfl
      · exact .inr rfl
      · exact .inl ⟨rfl, rfl⟩
    clear h1 h2 h3
    rcases t1 with ⟨t1, t2⟩ | t1
    all_goals
      go_enter Try.func11, Try.ntmps11
      go_wp2_with fail
      refine hho.mono ?_
      rintro e w1 ⟨rfl, rfl⟩
      go_wp2
      go_ret2
      exact ⟨Below.refl _ _, .inl ⟨by rw [unhide HE]; decide, by rw [unhide HE]; rfl⟩⟩
  rw [show houV kind o = true by
      unfold houV
      by_cases c : kind = 1
      · rw [if_pos c]; simp; omega
      · rw [if_neg c]; simp; omega] at hho
  have t1 : (kind != 1) = true ∧ (kind != 2) = false ∨ (kind != 1) = false := by
      rcases (show kind = 1 ∨ kind = 2 by omega) with rfl | rfl
      · exact .inr rfl
      · exact .inl ⟨rfl, rfl⟩
  by_cases h4 : most < 1 ∨ 1048576 < most
  · have HE : Hid (newE kind k o most = 3) := by show _ = _; unfold newE; rw [if_neg h1, if_neg h2, if_neg h3, if_pos h4]
    clear h1 h2 h3
    by_cases h5 : most < 1
    all_goals
      try have h6 : 1048576 < most := by omega
      rcases t1 with ⟨t1, t2⟩ | t1
      all_goals
        go_enter Try.func11, Try.ntmps11
        go_wp2_with fail
        refine hho.mono ?_
        rintro e w1 ⟨rfl, rfl⟩
        go_wp2
        go_ret2
        exact ⟨Below.refl _ _, .inl ⟨by rw [unhide HE]; decide, by rw [unhide HE]; rfl⟩⟩
  have m1 : ¬ most < 1 := by omega
  have m2 : ¬ 1048576 < most := by omega
  have HE : Hid (newE kind k o most = 0) := by show _ = _; unfold newE; rw [if_neg h1, if_neg h2, if_neg h3, if_neg h4]
  clear h1 h2 h3 h4
  -- the object, and the row behind it
  obtain ⟨w1, hw1⟩ : ∃ w1, w1 = w.alloc (.cells #[.int .i64 kind, .int .i64 k, .int .i64 o, .int .i64 most, .slice none 0 0, .int .i64 0, .int .i64 0] 65) := ⟨_, rfl⟩
  have q0 : Bk w1 w.heap.size [.int .i64 kind, .int .i64 k, .int .i64 o, .int .i64 most, .slice none 0 0, .int .i64 0, .int .i64 0] 65 := by rw [hw1]; exact Bk.new w _ _
  have hb1 : Below w.heap.size w w1 := by rw [hw1]; exact ballo _ _
  have z1 : w1.heap.size = w.heap.size + 1 := by rw [hw1]; simp
  have c0 : w1.cell? ⟨w.heap.size, 0, none⟩ = some (.int .i64 kind) := q0.cell 0
  have him : Calls Try.prog 34 #[.pointer (some ⟨w.heap.size, 0, none⟩)] w1 fun e w' => e = .returned (.bool (kind == 2)) ∧ w' = w1 := by
    go_enter Try.func34, Try.ntmps34
    go_wp2
    go_ret
    exact ⟨rfl, rfl⟩
  have hnr := newRow_any (kind == 2) w1
  obtain ⟨w2, hw2⟩ : ∃ w2, w2 = w1.alloc (.cells #[.int .i64 0, .int .i64 0, .int .i64 0, .int .i64 0, .bool (kind == 2), .int .i64 0] 87) := ⟨_, rfl⟩
  rw [← hw2] at hnr
  have q2 : Bk w2 w.heap.size [.int .i64 kind, .int .i64 k, .int .i64 o, .int .i64 most, .slice none 0 0, .int .i64 0, .int .i64 0] 65 := q0.below (by rw [hw2]; exact ballo _ _)
  have c4 : w2.cell? ⟨w.heap.size, 4, none⟩ = some (.slice none 0 0) := q2.cell 4
  have f4 := q2.frz 4
  have z2 : w1.heap.size < w2.heap.size := by rw [hw2]; simp
  have hown : OwnG 87 6 enL w2 w.heap.size (.slice (some ⟨w1.heap.size, 0, none⟩) 1 1) [⟨0, 0, 0, 0, (kind == 2), 0⟩] := by
    rw [hw2]
    exact OwnG.lit1 enL_len w1 w.heap.size _ _ (by omega) rfl
  have HF : Hid (NePost kind k o most w (.returned (.tuple #[.pointer (some ⟨w.heap.size, 0, none⟩), .int .i64 0])) (w2.setCell ⟨w.heap.size, 4, none⟩ (.slice (some ⟨w1.heap.size, 0, none⟩) 1 1))) := by
    refine ⟨?_, .inr ⟨unhide HE, w.heap.size, w1.heap.size, 1, [⟨0, 0, 0, 0, (kind == 2), 0⟩], rfl, ⟨q2.set 4 _, ?_, ?_, by omega, Nat.le_refl _⟩, Nat.le_refl _, by omega⟩⟩
    · have : Below w.heap.size w w2 := by rw [hw2]; exact balloc hb1 _
      exact this.setCell (p := ⟨w.heap.size, 4, none⟩) (Nat.le_refl _) _
    · exact hown.keep fun j ej => by cases ej; exact Below.heap_setCell _ _ _ _ (by show w1.heap.size ≠ w.heap.size; omega)
    · have := Ri.new (unhide HE)
      rwa [show decide (kind = 2) = (kind == 2) by rw [Bool.eq_iff_iff]; simp] at this
  rw [hw1] at him
  clear q0 q2 hown hb1 hw2
  rcases t1 with ⟨t1, t2⟩ | t1
  all_goals
    go_enter Try.func11, Try.ntmps11
    go_wp2_with fail
    refine hho.mono ?_
    rintro e w3 ⟨rfl, rfl⟩
    go_wp2_with fail
    refine him.mono ?_
    rintro e w4 ⟨rfl, rfl⟩
    rw [← hw1]
    clear hw1
    go_wp2_with fail
    refine hnr.mono ?_
    rintro e w5 ⟨rfl, rfl⟩
    go_wp2
    go_ret2
    have HF' := unhide HF
    rw [z1] at HF'
    exact HF'

end Go.Proofs.Ytemalidanjfmkaa

/-
  The document's example: live returns true.
-/
namespace Go.Proofs.Ytemalidanjfmkaa
open Go.RowKit

theorem num_any (e : Int) (w : World) : Calls Try.prog 13 #[.int .i64 e] w fun x w' => x = .returned (.int .i64 e) ∧ w' = w := by
  go_enter Try.func13, Try.ntmps13
  go_wp2
  go_ret
  exact ⟨rfl, rfl⟩
theorem lv1 : newE 2 2 2 9 = 0 ∧ newE 1 1 2 2 = 0 := by decide
theorem lv2 : (putV (newV 2 2 2 9) [0, 1] [1, 0]).2 = 0 := by decide
theorem lv3 : findV (putV (newV 2 2 2 9) [0, 1] [1, 0]).1 [0] = some [1] := by decide
theorem lv4 : (putV (getV (putV (newV 2 2 2 9) [0, 1] [1, 0]).1 [0]) [0] [0]).2 = 111 := by decide
theorem lv5 : (putV (newV 1 1 2 2) [0, 0] [1]).2 = 110 := by decide
theorem lv6 : (putV (getV (putV (newV 2 2 2 9) [0, 1] [1, 0]).1 [0]) [0] [0]).1.bg.length = 3 ∧ (putV (getV (putV (newV 2 2 2 9) [0, 1] [1, 0]).1 [0]) [0] [0]).1.hits = 1 := by decide
theorem lv7 : (putV (newV 2 2 2 9) [0, 1] [1, 0]).1.hits = 0 ∧ (putV (newV 2 2 2 9) [0, 1] [1, 0]).1.miss = 0 := by decide

theorem lit2 (w : World) (x y : Int) : RdL .i64 (w.alloc (.cells #[.int .i64 x, .int .i64 y] 3)) (some ⟨w.heap.size, 0, none⟩) [x, y] := RdL.lit w [x, y] _ (by unfold maxLen; simp) rfl
theorem lit1 (w : World) (x : Int) : RdL .i64 (w.alloc (.cells #[.int .i64 x] 3)) (some ⟨w.heap.size, 0, none⟩) [x] := RdL.lit w [x] _ (by unfold maxLen; simp) rfl

set_option maxRecDepth 100000 in
set_option maxHeartbeats 4000000 in
theorem live_any (w : World) : Calls Try.prog 10 #[] w fun e w' => e = .returned (.bool true) ∧ Below w.heap.size w w' := by
  have hn1 := new_any 2 2 2 9 w
  go_enter Try.func10, Try.ntmps10
  go_wp2_with fail
  refine hn1.mono ?_
  rintro e w1 ⟨hb1, hor1⟩
  obtain ⟨b, g, cap, R, rfl, co1, hb, hg⟩ : ∃ b g cap R, e = .returned (.tuple #[.pointer (some ⟨b, 0, none⟩), .int .i64 0]) ∧ Co w.heap.size w1 b g cap (newV 2 2 2 9) R ∧ w.heap.size ≤ b ∧ w.heap.size ≤ g := by
    rcases hor1 with ⟨h, -⟩ | ⟨-, h⟩
    · exact absurd lv1.1 h
    · exact h
  have hn2 := new_any 1 1 2 2 w1
  clear hn1 hor1
  go_wp2_with fail
  refine hn2.mono ?_
  rintro e w2 ⟨hb2, hor2⟩
  obtain ⟨b2, g2, cap2, R2, rfl, co2, hb2', hg2'⟩ : ∃ b g cap R, e = .returned (.tuple #[.pointer (some ⟨b, 0, none⟩), .int .i64 0]) ∧ Co w1.heap.size w2 b g cap (newV 1 1 2 2) R ∧ w1.heap.size ≤ b ∧ w1.heap.size ≤ g := by
    rcases hor2 with ⟨h, -⟩ | ⟨-, h⟩
    · exact absurd lv1.2 h
    · exact h
  have HD := hide co2
  have hbl := co1.blt
  have hgl := co1.glt.2
  have hbl2 := co2.blt
  have hgl2 := co2.glt.2
  have z1 := hb1.size
  have z2 := hb2.size
  -- the first Put
  obtain ⟨W1, hW1⟩ : ∃ W, W = (w2.alloc (.cells #[.int .i64 0, .int .i64 1] 3)).alloc (.cells #[.int .i64 1, .int .i64 0] 3) := ⟨_, rfl⟩
  have hbW : Below w2.heap.size w2 W1 := by rw [hW1]; exact bstep (ballo _ _) (ballo _ _)
  have zW : W1.heap.size = w2.heap.size + 2 := by rw [hW1]; simp
  have coW := (co1.below hb2).below hbW
  have hp1 := put_any (some ⟨w2.heap.size, 0, none⟩) 2 [0, 1] (some ⟨w2.heap.size + 1, 0, none⟩) 2 [1, 0] coW (by rw [hW1]; exact (lit2 w2 0 1).below (ballo _ _)) (by rw [hW1]; have := lit2 (w2.alloc (.cells #[.int .i64 0, .int .i64 1] 3)) 1 0; rwa [World.size_alloc] at this) (by unfold maxLen; simp) (by unfold maxLen; simp) (fun x ex => by cases ex; exact ⟨by show w2.heap.size < _; omega, by show w2.heap.size ≠ _; omega, by show w2.heap.size ≠ _; omega⟩) (by omega)
  have HBW := hide hbW
  have HZW := hide zW
  rw [hW1] at hp1
  clear hn2 hor2 coW hbW zW co1 co2
  go_wp2_with (first | (go_at_call 13; refine (num_any _ _).mono ?_; rintro e w' ⟨rfl, rfl⟩) | fail)
  refine hp1.mono ?_
  rw [← hW1]
  rintro e w3 ⟨rfl, g3, cap3, R3, co3, bx3, hg3⟩
  rw [lv2]
  have d3 := ((unhide HD).below (unhide HBW)).bx bx3 (by rintro (q | q) <;> omega) (by rintro (q | q) <;> omega)
  have HD3 := hide d3
  have z3 := bx3.size
  rw [unhide HZW] at z3 hg3
  have HB3 : Hid (Below w.heap.size w w3) := (bstep hb1 (bstep hb2 (unhide HBW))).trans (bx3.below (fun k hk => by rcases hk with q | q <;> omega) (by have := unhide HZW; omega))
  clear hp1 hW1 bx3 d3 HBW HD
  -- Get
  have hq0 : 0 ≤ (putV (newV 2 2 2 9) [0, 1] [1, 0]).1.hits ∧ (putV (newV 2 2 2 9) [0, 1] [1, 0]).1.hits ≤ 1000000000 := by rw [lv7.1]; decide
  have hq1 : 0 ≤ (putV (newV 2 2 2 9) [0, 1] [1, 0]).1.miss ∧ (putV (newV 2 2 2 9) [0, 1] [1, 0]).1.miss ≤ 1000000000 := by rw [lv7.2]; decide
  have hgt := get_any (some ⟨w3.heap.size, 0, none⟩) 1 [0] (co3.below (ballo w3 (.cells #[.int .i64 0] 3))) (lit1 w3 0) (by simp) hq0.1 hq0.2 hq1.1 hq1.2
  have HB4 := hide (ballo w3 (.cells #[.int .i64 0] 3))
  have HG4 := hide co3.glt.2
  clear hq0 hq1 co3
  have z4 : (w3.alloc (.cells #[.int .i64 0] 3)).heap.size = w3.heap.size + 1 := by simp
  have HZ4 := hide z4
  clear z4
  obtain ⟨W4, hW4⟩ : ∃ W, W = w3.alloc (.cells #[.int .i64 0] 3) := ⟨_, rfl⟩
  rw [← hW4] at HB4 HZ4
  have hbl3 := (unhide HD3).blt
  have hgl3 := (unhide HD3).glt.2
  go_wp2_with fail
  refine hgt.mono ?_
  rw [← hW4]
  rintro e w4 ⟨co4, bx4, vo, rfl, ho4⟩
  rw [lv3] at ho4 ⊢
  have d4 := ((unhide HD3).below (unhide HB4)).bx bx4 (by show ¬ _ = b; omega) (by show ¬ _ = b; omega)
  have HD4 := hide d4
  have z4 := bx4.size
  rw [unhide HZ4] at z4
  have HB5 : Hid (Below w.heap.size w w4) := (bstep (unhide HB3) (unhide HB4)).trans (bx4.below (fun k hk => by cases hk; omega) (by have := unhide HZ4; omega))
  obtain ⟨av, cv, rfl, -, -, -, hrv, hbv⟩ := ho4.shape
  have HR4 := hide hrv
  have HV4 : Hid (∀ x, av = some x → w3.heap.size < x.block ∧ x.block < w4.heap.size) := fun x ex => by have := hbv x ex; have := unhide HZ4; omega
  clear hgt hW4 bx4 d4 HB4 HD3 HB3 HZ4 ho4 hrv hbv
  -- the second Put
  obtain ⟨C4, hC4⟩ : ∃ C, C = getV (putV (newV 2 2 2 9) [0, 1] [1, 0]).1 [0] := ⟨_, rfl⟩
  have HL4 : Hid ((putV C4 [0] [0]).2 = 111 ∧ (putV C4 [0] [0]).1.bg.length = 3 ∧ (putV C4 [0] [0]).1.hits = 1) := by rw [hC4]; exact ⟨lv4, lv6⟩
  rw [← hC4] at co4
  clear hC4
  obtain ⟨W5, hW5⟩ : ∃ W, W = (w4.alloc (.cells #[.int .i64 0] 3)).alloc (.cells #[.int .i64 0] 3) := ⟨_, rfl⟩
  have hbW : Below w4.heap.size w4 W5 := by rw [hW5]; exact bstep (ballo _ _) (ballo _ _)
  have zW : W5.heap.size = w4.heap.size + 2 := by rw [hW5]; simp
  have hbl4 := co4.blt
  have hgl4 := co4.glt.2
  have hp2 := put_any (some ⟨w4.heap.size, 0, none⟩) 1 [0] (some ⟨w4.heap.size + 1, 0, none⟩) 1 [0] (co4.below hbW) (by rw [hW5]; exact (lit1 w4 0).below (ballo _ _)) (by rw [hW5]; have := lit1 (w4.alloc (.cells #[.int .i64 0] 3)) 0; rwa [World.size_alloc] at this) (by unfold maxLen; simp) (by unfold maxLen; simp) (fun x ex => by cases ex; exact ⟨by show w4.heap.size < _; omega, by show w4.heap.size ≠ _; omega, by show w4.heap.size ≠ _; omega⟩) (by omega)
  have HBW := hide hbW
  have HZW5 := hide zW
  have HG3 := hide hg3
  rw [hW5] at hp2
  clear hbW zW co4 hgl4 hg3 hbl4
  go_wp2_with fail
  refine hp2.mono ?_
  rw [← hW5]
  rintro e w5 ⟨rfl, g5, cap5, R5, co5, bx5, hg5⟩
  rw [(unhide HL4).1]
  have hd4 : g2 < w3.heap.size := by omega
  have d5 := ((unhide HD4).below (unhide HBW)).bx bx5 (by have := unhide HG3; rintro (q | q) <;> omega) (by have := unhide HG3; rintro (q | q) <;> omega)
  have HD5 := hide d5
  have z5 := bx5.size
  rw [unhide HZW5] at z5 hg5
  have HB6 : Hid (Below w.heap.size w w5) := (bstep (unhide HB5) (unhide HBW)).trans (bx5.below (fun k hk => by have := unhide HG3; rcases hk with q | q <;> omega) (by have := unhide HZW5; omega))
  have HR5 := hide (((unhide HR4).below (unhide HBW)).bx bx5 fun x ex => by have := unhide HV4 x ex; have := unhide HG4; rintro (q | q) <;> omega)
  have HV5 : Hid (∀ x, av = some x → w3.heap.size < x.block ∧ x.block < w5.heap.size) := fun x ex => by have := unhide HV4 x ex; omega
  have HG5 : Hid (b < w5.heap.size ∧ g5 < w5.heap.size ∧ b2 < w3.heap.size ∧ g2 < w3.heap.size ∧ (g5 = g3 ∨ w4.heap.size + 2 ≤ g5)) := ⟨co5.blt, co5.glt.2, by omega, by omega, hg5⟩
  clear hp2 hW5 bx5 d5 HBW HD4 HB5 HZW5 HR4 HV4 hg5
  obtain ⟨C5, hC5⟩ : ∃ C, C = (putV C4 [0] [0]).1 := ⟨_, rfl⟩
  rw [← hC5] at co5
  have HL5 : Hid (C5.bg.length = 3 ∧ C5.hits = 1) := by rw [hC5]; exact (unhide HL4).2
  clear hC5 HL4
  -- the third Put
  obtain ⟨W6, hW6⟩ : ∃ W, W = (w5.alloc (.cells #[.int .i64 0, .int .i64 0] 3)).alloc (.cells #[.int .i64 1] 3) := ⟨_, rfl⟩
  have hbW : Below w5.heap.size w5 W6 := by rw [hW6]; exact bstep (ballo _ _) (ballo _ _)
  have zW : W6.heap.size = w5.heap.size + 2 := by rw [hW6]; simp
  have hp3 := put_any (some ⟨w5.heap.size, 0, none⟩) 2 [0, 0] (some ⟨w5.heap.size + 1, 0, none⟩) 1 [1] ((unhide HD5).below hbW) (by rw [hW6]; exact (lit2 w5 0 0).below (ballo _ _)) (by rw [hW6]; have := lit1 (w5.alloc (.cells #[.int .i64 0, .int .i64 0] 3)) 1; rwa [World.size_alloc] at this) (by unfold maxLen; simp) (by unfold maxLen; simp) (fun x ex => by cases ex; exact ⟨by show w5.heap.size < _; omega, by show w5.heap.size ≠ _; omega, by show w5.heap.size ≠ _; omega⟩) (by omega)
  have HBW := hide hbW
  have HZW6 := hide zW
  have HC5 := hide co5
  rw [hW6] at hp3
  clear hbW zW co5
  go_wp2_with fail
  refine hp3.mono ?_
  rw [← hW6]
  rintro e w6 ⟨rfl, g6, cap6, R6, -, bx6, -⟩
  rw [lv5]
  have co6 := ((unhide HC5).below (unhide HBW)).bx bx6 (by have := unhide HG5; rintro (q | q) <;> omega) (by have := unhide HG5; have := unhide HG4; have := unhide HG3; rintro (q | q) <;> omega)
  have HR6 := hide (((unhide HR5).below (unhide HBW)).bx bx6 fun x ex => by have := unhide HV5 x ex; have := unhide HG5; rintro (q | q) <;> omega)
  have HB7 : Hid (Below w.heap.size w w6) := (bstep (unhide HB6) (unhide HBW)).trans (bx6.below (fun k hk => by rcases hk with q | q <;> omega) (by have := unhide HZW6; omega))
  have hno := nodes_any co6
  rw [(unhide HL5).1] at hno
  have HHI : Hid (∀ w7, Below (w6.alloc (.cells #[.int .i64 1] 3)).heap.size (w6.alloc (.cells #[.int .i64 1] 3)) w7 → Calls Try.prog 22 #[.pointer (some ⟨b, 0, none⟩)] w7 fun e w' => e = .returned (.int .i64 1) ∧ w' = w7) := fun w7 h7 => by
    have := hits_any ((co6.below (ballo w6 (.cells #[.int .i64 1] 3))).below h7)
    rwa [(unhide HL5).2] at this
  have hsm := same_list av (some ⟨w6.heap.size, 0, none⟩) cv 1 [1] [1] _ ((unhide HR6).below (ballo w6 (.cells #[.int .i64 1] 3))) (lit1 w6 1) (by unfold maxLen; simp)
  have HC6 := hide co6
  clear co6 hp3 hW6 bx6 HBW HD5 HB6 HZW6 HR5 HV5 HC5
  go_wp2_with (first | (go_at_call 13; refine (num_any _ _).mono ?_; rintro e w' ⟨rfl, rfl⟩) | (go_at_call 21; refine hno.mono ?_; rintro e w' ⟨rfl, rfl⟩) | (go_at_call 19; refine hsm.mono ?_; rintro e w7 ⟨rfl, hb7⟩) | (go_at_call 22; refine (unhide HHI _ hb7).mono ?_; rintro e w' ⟨rfl, rfl⟩))
  go_ret
  exact ⟨by rfl, bstep (bstep (unhide HB7) (ballo _ _)) hb7⟩

end Go.Proofs.Ytemalidanjfmkaa

/-
  The program's row of entries: the word at a place, the places in the order of their words.
-/
namespace Go.Proofs.Ytemalidanjfmkaa
open Go.RowKit

/-- make([]int, 1, n). -/
theorem wpl_make1 {w : World} {ops : Array Oper} {rest : List Oper} {o : Oper} {a : Act} {Q : Exit → Act → World → Prop} (hgd : o.guard = none) (l c : Operand) (ho : o.op = Op.makeSlice 29 l c) (B : Nat) (C : Int) (n : Nat)
    (hl : a.eval l = .int .i64 1) (hc : a.eval c = .int .i64 C) (hC : C = (n : Int)) (h1 : 1 ≤ n) (hn : n ≤ 1000000000) (hbase : B ≤ w.heap.size)
    (h : ∀ w', OwnL .i64 3 w' B (.slice (some ⟨w.heap.size, 0, none⟩) 1 n) [0] → Below B w w' → wpList Try.prog ops Q rest (a.put o.dst (.slice (some ⟨w.heap.size, 0, none⟩) 1 n)) w') :
    wpList Try.prog ops Q (o :: rest) a w := by
  obtain ⟨i, hi, hz0, hz1, hz2⟩ := info_parts eInt.info
  refine wpList_plain hgd fun K hK' => ?_
  have hr := run_make (P := Try.prog) w 29 3 i (.int .i64 0) eInt.und hi hz0 .i64 .i64 1 (n : Int) (by omega) (by omega) (by rw [hz2]; omega) (by omega)
  simp only [Int.toNat_natCast] at hr
  rw [hz1, Nat.mul_one, show (1 : Int).toNat = 1 from rfl] at hr
  subst hC
  unfold Oper.wp
  simp [execOp, ho, hl, hc, hr, Result.andThen]
  refine hK' _ _ (h _ ?_ ((Below.refl B w).grown (World.grownBy_alloc w _ none) hbase fun k hk => by cases hk))
  refine ⟨rfl, .inr ⟨w.heap.size, n, madeCells #[.int .i64 0] n, rfl, hbase, by show (w.heap.push _)[w.heap.size]? = _; simp [Value.cells], h1, by unfold maxLen; omega, by rw [size_madeCells]; omega, ?_⟩⟩
  rw [toList_madeCells_one]
  obtain ⟨m, rfl⟩ : ∃ m, n = m + 1 := ⟨n - 1, by omega⟩
  simp [List.replicate_succ]

theorem goesOn_any (p s c n : Int) (w : World) : Calls Try.prog 49 #[.agg #[.int .i64 p, .int .i64 s, .int .i64 c, .int .i64 n]] w fun e w' => e = .returned (.bool (c != 0)) ∧ Below w.heap.size w w' := by
  go_enter Try.func49, Try.ntmps49
  go_wp2
  go_ret
  exact ⟨rfl, ballo _ _⟩

/-- What spell leaves. -/
def SpePost (u : List Int) (w : World) (e : Ending) (w' : World) : Prop := ∃ v, e = .returned v ∧ OwnL .i64 3 w' w.heap.size v u ∧ Below w.heap.size w w'
theorem own_rev {w : World} {B : Nat} {v : Value} {l : List Int} (h : Own w B v l.length (fun k => l.getD (l.length - 1 - k) 0)) : OwnL .i64 3 w B v l.reverse := by
  have h2 : Own w B v l.reverse.length (fun i => l.reverse.getD i 0) := by
    rw [List.length_reverse]
    refine h.congr fun i hi => ?_
    rw [List.getD_eq_getElem?_getD, List.getD_eq_getElem?_getD, List.getElem?_reverse hi]
  exact list_of_own h2

set_option maxRecDepth 100000 in
set_option maxHeartbeats 2000000 in
theorem spell_any (R : List En) (bg : List (List Int)) (g cap p : Nat) (w : World) (T : Tr R bg) (hr : RdR w g R) (hp : p < R.length) (hl : R.length ≤ 1048576) :
    Calls Try.prog 50 #[.slice (some ⟨g, 0, none⟩) R.length cap, .int .i64 p] w fun e w' => SpePost (wa bg p) w e w' := by
  have HR := hide hr
  have HT := hide T
  clear hr T
  go_enter Try.func50, Try.ntmps50
  go_wp2
  go_loopw [1, 5] (fun x v wr => ∃ (q : Nat) (l : List Int), x = .int .i64 q ∧ Hid (q < R.length) ∧ Hid (l.length + q ≤ p) ∧ Hid (wa bg p = wa bg q ++ l.reverse) ∧ Hid (OwnL .i64 3 wr w.heap.size v l) ∧ Below w.heap.size w wr) (fun x _ _ => (intOf x).toNat)
  case atStart => exact ⟨p, [], rfl, hide hp, hide (by simp), hide (by simp), hide (OwnL.nil _ _ _ _), Below.refl _ _⟩
  case round =>
    obtain ⟨q, l, rfl, HQ, HL, HW, HO, hB⟩ := hrel
    obtain ⟨av, cv, rfl, hnil, hcv, hcm, hrd, hblk⟩ := (unhide HO).shape
    by_cases h0 : q = 0
    · have t0 : ((q : Int) != 0) = false := by simp [h0]
      have HE : Hid (wa bg p = l.reverse) := by show _ = _; rw [unhide HW, h0, (unhide HT).root]; rfl
      have hll : l.length ≤ 1048576 := by have := unhide HL; omega
      clear h0 hrd hblk HW
      by_cases hz : l.length = 0
      · have hlz : l = [] := List.length_eq_zero_iff.1 hz
        have hrv := reverse_none av cv wr
        have HF : Hid (SpePost (wa bg p) w (.returned (.slice av 0 cv)) wr) := ⟨_, rfl, by
          have := unhide HO
          rw [hlz] at this
          rw [unhide HE, hlz]; exact this, hB⟩
        rw [hz]
        clear hz hlz HE HO HL
        go_wp2_with fail
        refine hrv.mono ?_
        rintro e w1 ⟨rfl, rfl⟩
        go_wp2
        go_ret
        exact unhide HF
      · cases av with
        | none => exact absurd (hnil rfl).1 hz
        | some ad =>
          obtain ⟨ba, off, mm⟩ := ad
          have ho := own_of_list (unhide HO)
          obtain ⟨g', c', e', -, -, hBg, -, -, -⟩ := ho.pos (by omega)
          cases e'
          have hrv := reverse_any w.heap.size ba cv l.length (fun i => l.getD i 0) wr ho (by omega) (by omega)
          have HF : Hid (∀ w1, RevPost w.heap.size ba cv l.length (fun i => l.getD i 0) wr (.returned (.tuple #[])) w1 → SpePost (wa bg p) w (.returned (.slice (some ⟨ba, 0, none⟩) l.length cv)) w1) := fun w1 h => by
            obtain ⟨-, h1, h2, h3⟩ := h
            refine ⟨_, rfl, by rw [unhide HE]; exact own_rev h1, hB.trans (h2.below (fun k hk => by cases hk; exact hBg) hB.size)⟩
          have HLE : Hid (l.length = l.length) := rfl
          clear HE HO HL ho hnil hcv
          generalize hLL : l.length = LL at *
          clear hLL
          go_wp2_with fail
          refine hrv.mono ?_
          intro e w1 h
          obtain rfl : e = .returned (.tuple #[]) := h.1
          have HG := hide (unhide HF w1 h)
          clear h HF hrv
          go_wp2
          go_ret
          exact unhide HG
    · have t0 : ((q : Int) != 0) = true := by simp [h0]
      have hq := unhide HQ
      have hq' : (q : Int) < (R.length : Int) := by omega
      have r := (unhide HR).below hB
      have c1 := r.s hq
      obtain ⟨p1, p2⟩ := (unhide HT).par q (by omega) hq
      have HP1 : Hid ((ea R q).p < q) := p1
      have HW2 : Hid (wa bg p = wa bg (ea R q).p ++ (l ++ [(ea R q).s]).reverse) := by
        show _ = _
        rw [unhide HW, p2]; simp
      have HC0 : Hid (∀ wx, Below w.heap.size w wx → wx.cell? ⟨g, q * 6, none⟩ = some (.int .i64 ((ea R q).p : Int))) := fun wx hx => ((unhide HR).below hx).p hq
      generalize (ea R q).s = X at *
      generalize (ea R q).p = Y at *
      have hll : l.length ≤ 1048576 := by have := unhide HL; omega
      clear r p1 p2 h0 HW hrd hblk hq
      go_wp2_with (at_builtin; refine wpl_pushL eInt rfl (.tmp 14) (.tmp 21) rfl w.heap.size _ l rfl (OwnL.alloc (unhide HO) _) (some ⟨wr.heap.size, 0, none⟩) 1 [X] rfl (RdL.one _ _) (fun e => by cases e) (by simp only [List.length_cons, List.length_nil]; omega) (by have := hB.size; simp; omega) ?_; intro v8 w8 ho8 hb8 hg8; have hB8 : Below w.heap.size w w8 := (balloc hB _).trans hb8; have c0 := unhide HC0 w8 hB8)
      go_roundw
      case rel => exact ⟨Y, l ++ [X], rfl, hide (by have := unhide HP1; have := unhide HQ; omega), hide (by have := unhide HL; have := unhide HP1; simp; omega), HW2, hide ho8, hB8⟩
      case measure => have := unhide HP1; simp [intOf]; omega

/-- What inOrder leaves. -/
def InoPost (R : List En) (bg : List (List Int)) (w : World) (e : Ending) (w' : World) : Prop :=
  ∃ v P, e = .returned v ∧ Ino R bg P P.length ∧ OwnL .i64 3 w' w.heap.size v (ni P) ∧ Below w.heap.size w w'
set_option maxRecDepth 100000 in
set_option maxHeartbeats 2000000 in
theorem inOrder_any (R : List En) (bg : List (List Int)) (g cap : Nat) (w : World) (T : Tr R bg) (hr : RdR w g R) (hl : R.length ≤ 1048576) :
    Calls Try.prog 48 #[.slice (some ⟨g, 0, none⟩) R.length cap] w fun e w' => InoPost R bg w e w' := by
  have HR := hide hr
  have HT := hide T
  have h1 := T.pos
  clear hr T
  go_enter Try.func48, Try.ntmps48
  go_wp2_with (at_make; refine wpl_make1 rfl (.const (.int .i64 1)) (.tmp 7) rfl w.heap.size _ R.length rfl rfl (by go_num) (by omega) (by omega) (Nat.le_refl _) ?_; intro w1 ho1 hb1)
  have HO1 := hide ho1
  clear ho1
  go_loopw [3, 4] (fun v x wr => ∃ (i : Nat) (P : List Nat), x = .int .i64 i ∧ Hid (i ≤ P.length) ∧ Hid (Ino R bg P i) ∧ Hid (OwnL .i64 3 wr w.heap.size v (ni P)) ∧ Below w.heap.size w wr) (fun _ x _ => R.length - (intOf x).toNat)
  case atStart => exact ⟨0, [0], rfl, hide (by simp), hide (Ino.start (unhide HT)), HO1, hb1⟩
  case round =>
    obtain ⟨i, P, rfl, HI, HN, HO, hB⟩ := hrel
    clear HO1 hb1
    obtain ⟨av, cv, rfl, hnil, hcv, hcm, hrd, hblk⟩ := (unhide HO).shape
    rw [ni_len] at hnil hcv
    rw [ni_len]
    have hPR := (unhide HN).len
    by_cases hlt : i < P.length
    · have hlt' : (i : Int) < (P.length : Int) := by omega
      obtain ⟨b, off, rfl, hc⟩ := hrd.at (i := i) (by rw [ni_len]; omega)
      have c0 := hc i (by rw [ni_len]; omega)
      rw [ni_at] at c0
      have hal := (unhide HN).lt _ (gn_mem hlt)
      have hal' : ((P.getD i 0 : Nat) : Int) < (R.length : Int) := by omega
      have c1 := ((unhide HR).below hB).c hal
      have HK := hide ((unhide HN).begin (unhide HT) hlt)
      have HO' : Hid (OwnL .i64 3 wr w.heap.size (.slice (some ⟨b, off, none⟩) P.length cv) (ni P)) := by
        have := unhide HO
        rwa [ni_len] at this
      generalize (ea R (P.getD i 0)).c = Y at *
      generalize P.getD i 0 = A at *
      clear hc hrd hblk hnil hcv hcm HN HO hal
      go_wp2
      go_loopw [3, 5] (fun v x wr => ∃ (y : Nat) (P : List Nat), x = .int .i64 y ∧ Hid (Ink R bg P i y) ∧ Hid (OwnL .i64 3 wr w.heap.size v (ni P)) ∧ Below w.heap.size w wr) (fun _ x _ => msr R (intOf x).toNat)
      case atStart => exact ⟨Y, P, rfl, HK, HO', hB⟩
      case round =>
        obtain ⟨y, P2, rfl, HK2, HO2, hB2⟩ := hrel
        clear HK HO' c0 c1 hB
        by_cases h0 : y = 0
        · have t0 : ((y : Int) != 0) = false := by simp [h0]
          have HK3 : Hid (Ino R bg P2 (i + 1)) := by
            have := unhide HK2
            rw [h0] at this
            exact this.done
          have hi2 := (unhide HK2).hi
          have hl2 := (unhide HK2).len
          clear h0 HK2
          go_wp2
          go_roundw
          case rel => exact ⟨i + 1, P2, by go_num, hide (by omega), HK3, HO2, hB2⟩
          case measure => simp [intOf]; omega
        · have t0 : ((y : Int) != 0) = true := by simp [h0]
          have hk := (unhide HK2).yk h0
          have hyl : (y : Int) < (R.length : Int) := by have := hk.2.1; omega
          have HC0 : Hid (∀ wx, Below w.heap.size w wx → wx.cell? ⟨g, y * 6 + 3, none⟩ = some (.int .i64 ((ea R y).n : Int))) := fun wx hx => ((unhide HR).below hx).n hk.2.1
          have HKN := hide ((unhide HK2).next (unhide HT) h0)
          have HM := hide ((unhide HT).msr_kid hk)
          have hl2 := (unhide HK2).len
          obtain ⟨a2, c2, rfl, -, -, -, -, -⟩ := (unhide HO2).shape
          have hnl : (ni P2).length = P2.length := ni_len P2
          clear h0 hk HK2
          generalize (ea R y).n = Z at *
          go_wp2_with (at_builtin; refine wpl_pushL eInt rfl (.tmp 32) (.tmp 34) rfl w.heap.size _ (ni P2) rfl (OwnL.alloc (unhide HO2) _) (some ⟨wr.heap.size, 0, none⟩) 1 [(y : Int)] rfl (RdL.one _ _) (fun e => by cases e) (by rw [hnl]; simp only [List.length_cons, List.length_nil]; omega) (by have := hB2.size; simp; omega) ?_; intro v8 w8 ho8 hb8 hg8; have hB8 : Below w.heap.size w w8 := (balloc hB2 _).trans hb8; have c0 := unhide HC0 w8 hB8)
          go_roundw
          case rel => exact ⟨Z, P2 ++ [y], rfl, HKN, hide (by rw [ni_snoc]; exact ho8), hB8⟩
          case measure => exact unhide HM
    · have HE : Hid (Ino R bg P P.length) := by
        have h2 := unhide HI
        obtain rfl : i = P.length := by omega
        exact unhide HN
      have hlt' : ¬ (i : Int) < (P.length : Int) := by omega
      have HO' : Hid (OwnL .i64 3 wr w.heap.size (.slice av P.length cv) (ni P)) := by
        have := unhide HO
        rwa [ni_len] at this
      clear hlt hrd hblk hnil hcv hcm HN HO HI hPR
      go_wp2
      go_ret
      exact ⟨_, P, rfl, unhide HE, unhide HO', hB⟩

end Go.Proofs.Ytemalidanjfmkaa

/-
  The program's Words.
-/
namespace Go.Proofs.Ytemalidanjfmkaa
open Go.RowKit

theorem gdl_left {V : List (List Int)} {l : List Int} {i : Nat} (h : i < V.length) : (V ++ [l]).getD i [] = V.getD i [] := by
  rw [List.getD_eq_getElem?_getD, List.getD_eq_getElem?_getD, List.getElem?_append_left h]
theorem gdl_new {V : List (List Int)} {l : List Int} : (V ++ [l]).getD V.length [] = l := by simp
/-- A list behind the lists. -/
theorem LLs.add {w wr w2 w4 : World} {v v' u : Value} {vs : Nat → Value} {V : List (List Int)} {l : List Int} (h : LLs wr w.heap.size v vs V) (hbl : Below w.heap.size w wr) (hu : OwnL .i64 3 w2 wr.heap.size u l) (hb : Below wr.heap.size wr w2) (o : Obj)
    (ho : OwnV w4 w.heap.size v' (V.length + 1) (joinV V.length vs fun _ => u)) (hg : (w2.alloc o).grownBy w4 v.ownBlock) (hv : ∀ b, v'.ownBlock = some b → v.ownBlock = some b ∨ (w2.alloc o).heap.size ≤ b) : LLs w4 w.heap.size v' (joinV V.length vs fun _ => u) (V ++ [l]) ∧ Below w.heap.size w w4 := by
  have I : RPInv w V.length (nsV (V ++ [l])) (fsV (V ++ [l])) wr v vs := ⟨h.out, ⟨fun i hi => by
    have := h.fam.own i hi
    unfold nsV fsV at this ⊢
    rw [gdl_left hi]; exact this, h.fam.apart⟩, h.ap, hbl⟩
  have hu2 : Own w2 wr.heap.size u (nsV (V ++ [l]) V.length) (fsV (V ++ [l]) V.length) := by
    have := own_of_list hu
    unfold nsV fsV
    rw [gdl_new]; exact this
  have J := I.step hu2 hb o ho hg hv
  have e : (V ++ [l]).length = V.length + 1 := by simp
  exact ⟨⟨by rw [e]; exact J.out, by rw [e]; exact J.fam, by rw [e]; exact J.apart⟩, J.below⟩
theorem Tr.wlen {R : List En} {bg : List (List Int)} (T : Tr R bg) : ∀ (n i : Nat), i ≤ n → i < R.length → (wa bg i).length ≤ i
  | n, 0, _, _ => by rw [T.root]; simp
  | 0, i + 1, h, _ => by omega
  | n + 1, i + 1, h, hi => by
    obtain ⟨h1, h2⟩ := T.par (i + 1) (by omega) hi
    have := Tr.wlen T n (ea R (i + 1)).p (by omega) (by omega)
    rw [h2]; simp; omega
/-- What Words leaves. -/
def WsPost (c : Cs) (w : World) (e : Ending) (w' : World) : Prop :=
  ∃ v us L, e = .returned v ∧ Wds c L ∧ LLs w' w.heap.size v us L ∧ Below w.heap.size w w' ∧ L.length ≤ c.bg.length ∧ ∀ u ∈ L, u.length ≤ c.bg.length
theorem wdsV_lens {c : Cs} {R : List En} {P : List Nat} (I : Ri c R) (h : Ino R c.bg P P.length) : (wdsV c R P).length ≤ c.bg.length ∧ ∀ u ∈ wdsV c R P, u.length ≤ c.bg.length := by
  have hl := h.len
  have hR := I.tr.len
  refine ⟨?_, fun u hu => ?_⟩
  · unfold wdsV
    rw [List.length_map]
    have := List.length_filter_le (keepP c R) P
    omega
  · unfold wdsV at hu
    obtain ⟨p, hp, rfl⟩ := List.mem_map.1 hu
    have hp := h.lt p (List.mem_filter.1 hp).1
    have := I.tr.wlen p p (Nat.le_refl _) hp
    omega
theorem keep_0 {c : Cs} {R : List En} {p : Nat} (h : (ea R p).kn = false) : keepP c R p = false := by unfold keepP; rw [h]; rfl
theorem keep_1 {c : Cs} {R : List En} {p : Nat} (h : (ea R p).kn = true) (k : c.kind ≠ 2) : keepP c R p = true := by unfold keepP; rw [h]; simp [k]
theorem keep_2 {c : Cs} {R : List En} {p : Nat} (h : (ea R p).kn = true) (hc : (ea R p).c = 0) : keepP c R p = true := by unfold keepP; rw [h]; simp [hc]
theorem keep_3 {c : Cs} {R : List En} {p : Nat} (k : c.kind = 2) (hc : (ea R p).c ≠ 0) : keepP c R p = false := by unfold keepP; simp [k, hc]
theorem RdR.six {w : World} {g : Nat} {R : List En} (h : RdR w g R) {i : Nat} (hi : i < R.length) : w.cell? ⟨g, i * 6, none⟩ = some (.int .i64 ((ea R i).p : Int)) ∧ w.cell? ⟨g, i * 6 + 1, none⟩ = some (.int .i64 (ea R i).s) ∧ w.cell? ⟨g, i * 6 + 2, none⟩ = some (.int .i64 ((ea R i).c : Int)) ∧ w.cell? ⟨g, i * 6 + 3, none⟩ = some (.int .i64 ((ea R i).n : Int)) ∧ w.cell? ⟨g, i * 6 + 4, none⟩ = some (.bool (ea R i).kn) ∧ w.cell? ⟨g, i * 6 + 5, none⟩ = some (.int .i64 (ea R i).la) :=
  ⟨h.p hi, h.s hi, h.c hi, h.n hi, h.kn hi, h.la hi⟩

set_option maxRecDepth 100000 in
set_option maxHeartbeats 4000000 in
theorem words_any {B : Nat} {w : World} {b g cap : Nat} {c : Cs} {R : List En} (h : Co B w b g cap c R) :
    Calls Try.prog 26 #[.pointer (some ⟨b, 0, none⟩)] w fun e w' => WsPost c w e w' := by
  have hmd := isMade_any h
  have hRl := h.len.2
  have hin := inOrder_any R c.bg g cap w h.i.tr h.row.1 hRl
  have HH := hide h
  have c4 := h.c4
  clear h
  go_enter Try.func26, Try.ntmps26
  go_wp2_with fail
  refine hmd.mono ?_
  rintro e w1 ⟨rfl, rfl⟩
  go_wp2_with fail
  refine hin.mono ?_
  rintro e w2 ⟨vp, P, rfl, hino, hop, hb2⟩
  have HI := hide hino
  have HOP := hide hop
  have HB2 := hide hb2
  obtain ⟨av, cv, rfl, -, -, -, hrd, -⟩ := hop.shape
  rw [ni_len]
  have hPR := hino.len
  have HRD := hide hrd
  clear hmd hin c4 hino hop hrd
  go_wp2
  go_loopw [3, 16] (fun v x wr => ∃ (t : Nat) (us : Nat → Value), x = .int .i64 t ∧ t ≤ P.length ∧ Hid (LLs wr w2.heap.size v us (wdsV c R (P.take t))) ∧ Below w2.heap.size w2 wr) (fun _ x _ => P.length - (intOf x).toNat)
  case atStart => exact ⟨0, fun _ => .slice none 0 0, rfl, Nat.zero_le _, hide (LLs.nil _ _ _), Below.refl _ _⟩
  case round =>
    obtain ⟨t, us, rfl, ht, HL, hB2⟩ := hrel
    clear hb2
    have hB := bstep (unhide HB2) hB2
    by_cases hlt : t < P.length
    · have hlt' : (t : Int) < (P.length : Int) := by omega
      obtain ⟨pb, poff, rfl, hpc⟩ := ((unhide HRD).below hB2).at (i := t) (by rw [ni_len]; omega)
      have d0 := hpc t (by rw [ni_len]; omega)
      rw [ni_at] at d0
      have hal := (unhide HI).lt _ (gn_mem hlt)
      have hal' : ((P.getD t 0 : Nat) : Int) < (R.length : Int) := by omega
      have co := (unhide HH).below hB
      have c4 := co.c4
      obtain ⟨e0, e1, e2, e3, e4, e5⟩ := co.row.1.six hal
      have HN := hide (wdsV_next (c := c) (R := R) hlt)
      have HSP : Hid (∀ wx, Below w1.heap.size w1 wx → Calls Try.prog 50 #[.slice (some ⟨g, 0, none⟩) R.length cap, .int .i64 ((P.getD t 0 : Nat) : Int)] wx fun e w' => SpePost (wa c.bg (P.getD t 0)) wx e w') := fun wx hx => spell_any R c.bg g cap (P.getD t 0) wx (unhide HH).i.tr ((unhide HH).below hx).row.1 hal hRl
      have HLN : Hid ((wdsV c R (P.take t)).length ≤ P.length) := by
        show _ ≤ _
        unfold wdsV
        rw [List.length_map]
        have := List.length_filter_le (keepP c R) (P.take t)
        rw [List.length_take] at this
        omega
      have HWL : Hid ((wa c.bg (P.getD t 0)).length ≤ 1048576) := by
        show _ ≤ _
        have := (unhide HH).i.tr.wlen _ _ (Nat.le_refl _) hal
        omega
      generalize P.getD t 0 = A at *
      cases hkn : (ea R A).kn with
      | false =>
        rw [hkn] at e4
        have HE : Hid (wdsV c R (P.take (t + 1)) = wdsV c R (P.take t)) := by
          show _ = _
          rw [unhide HN, keep_0 hkn, if_neg (by simp), List.append_nil]
        generalize ea R A = E at *
        clear hpc hkn co HSP HN hal
        go_wp2
        go_roundw
        case rel => exact ⟨t + 1, us, by go_num, by omega, hide (by rw [unhide HE]; exact (unhide HL).below (ballo _ _)), balloc hB2 _⟩
        case measure => simp [intOf]; omega
      | true =>
        rw [hkn] at e4
        by_cases hk2 : c.kind = 2
        · have him : ∀ wx, Below w1.heap.size w1 wx → Calls Try.prog 34 #[.pointer (some ⟨b, 0, none⟩)] wx fun e w' => e = .returned (.bool true) ∧ w' = wx := fun wx hx => by
            have := isMealy_any ((unhide HH).below hx)
            rwa [show (c.kind == 2) = true by simp [hk2]] at this
          have HIM := hide him
          by_cases hc0 : (ea R A).c = 0
          · have t0 : (((ea R A).c : Int) != 0) = false := by simp [hc0]
            have HE : Hid (wdsV c R (P.take (t + 1)) = wdsV c R (P.take t) ++ [wa c.bg A]) := by
              show _ = _
              rw [unhide HN, keep_2 hkn hc0, if_pos rfl]
            have HGO := hide (goesOn_any (ea R A).p (ea R A).s (ea R A).c (ea R A).n)
            rw [t0] at HGO
            generalize ea R A = E at *
            generalize wa c.bg A = U at *
            generalize wdsV c R (P.take t) = V at *
            obtain ⟨al, cl, rfl, -⟩ := (unhide HL).rdx
            clear hpc hkn co HN hal hk2 him hc0
            go_wp2_with (first | (go_at_call 34; refine (unhide HIM _ (balloc hB _)).mono ?_; rintro e w' ⟨rfl, hw'⟩; subst w') | (go_at_call 49; refine (unhide HGO _).mono ?_; rintro e w6 ⟨rfl, hb6⟩; have c4 := ((unhide HH).below (bstep (balloc hB _) hb6)).c4) | (go_at_call 50; refine (unhide HSP _ (bstep (balloc hB _) hb6)).mono ?_; rintro e w7 ⟨v7, rfl, ho7, hb7⟩; have hb7' : Below wr.heap.size wr w7 := bstep (bstep (ballo _ _) hb6) hb7; have z7 := hb7'.size; have zB := hB2.size; obtain ⟨a7, c7, rfl, -, -, -, -, -⟩ := ho7.shape) | (at_builtin; refine wplV_append3 rfl (.tmp 40) (.tmp 47) rfl w2.heap.size _ V.length us rfl ((((unhide HL).out).below hb7').alloc _) ⟨w7.heap.size, 0, none⟩ 1 1 (fun _ => .slice a7 U.length c7) rfl (RdV.lit w7 1 (fun _ => .slice a7 U.length c7) _ (by unfold maxLen; omega) (by simp [cellsV])) (by intro i _; exact ⟨_, _, _, rfl⟩) (by omega) (by have := unhide HLN; omega) (by simp; omega) ?_; intro v8 w8 ho8 hg8 hv8; have hLA := LLs.add (unhide HL) hB2 (ho7.mono (bstep (ballo _ _) hb6).size) hb7' _ ho8 hg8 hv8; obtain ⟨a8, c8, rfl, -⟩ := hLA.1.rdx))
            go_roundw
            case rel => exact ⟨t + 1, _, by go_num, by omega, hide (by rw [unhide HE]; have h := hLA.1; rw [List.length_append] at h; exact h), hLA.2⟩
            case measure => simp [intOf]; omega
          · have t0 : (((ea R A).c : Int) != 0) = true := by simp [hc0]
            have HE : Hid (wdsV c R (P.take (t + 1)) = wdsV c R (P.take t)) := by
              show _ = _
              rw [unhide HN, keep_3 hk2 hc0, if_neg (by simp), List.append_nil]
            have HGO := hide (goesOn_any (ea R A).p (ea R A).s (ea R A).c (ea R A).n)
            rw [t0] at HGO
            generalize ea R A = E at *
            clear hpc hkn co HSP HN hal hk2 hc0 him
            go_wp2_with (first | (go_at_call 34; refine (unhide HIM _ (balloc hB _)).mono ?_; rintro e w' ⟨rfl, hw'⟩; subst w') | (go_at_call 49; refine (unhide HGO _).mono ?_; rintro e w6 ⟨rfl, hb6⟩))
            go_roundw
            case rel => exact ⟨t + 1, us, by go_num, by omega, hide (by rw [unhide HE]; exact ((unhide HL).below (ballo _ _)).below hb6), bstep (balloc hB2 _) hb6⟩
            case measure => simp [intOf]; omega
        · have him : ∀ wx, Below w1.heap.size w1 wx → Calls Try.prog 34 #[.pointer (some ⟨b, 0, none⟩)] wx fun e w' => e = .returned (.bool false) ∧ w' = wx := fun wx hx => by
            have := isMealy_any ((unhide HH).below hx)
            rwa [show (c.kind == 2) = false by simp [hk2]] at this
          have HIM := hide him
          have HE : Hid (wdsV c R (P.take (t + 1)) = wdsV c R (P.take t) ++ [wa c.bg A]) := by
            show _ = _
            rw [unhide HN, keep_1 hkn hk2, if_pos rfl]
          generalize ea R A = E at *
          generalize wa c.bg A = U at *
          generalize wdsV c R (P.take t) = V at *
          obtain ⟨al, cl, rfl, -⟩ := (unhide HL).rdx
          clear hpc hkn co HN hal hk2 him
          go_wp2_with (first | (go_at_call 34; refine (unhide HIM _ (balloc hB _)).mono ?_; rintro e w' ⟨rfl, hw'⟩; subst w'; have c4 := ((unhide HH).below (balloc hB (.cells #[.int .i64 E.p, .int .i64 E.s, .int .i64 E.c, .int .i64 E.n, .bool true, .int .i64 E.la] 87))).c4) | (go_at_call 50; refine (unhide HSP _ (balloc hB _)).mono ?_; rintro e w7 ⟨v7, rfl, ho7, hb7⟩; have hb7' : Below wr.heap.size wr w7 := bstep (ballo _ _) hb7; have z7 := hb7'.size; have zB := hB2.size; obtain ⟨a7, c7, rfl, -, -, -, -, -⟩ := ho7.shape) | (at_builtin; refine wplV_append3 rfl (.tmp 40) (.tmp 47) rfl w2.heap.size _ V.length us rfl ((((unhide HL).out).below hb7').alloc _) ⟨w7.heap.size, 0, none⟩ 1 1 (fun _ => .slice a7 U.length c7) rfl (RdV.lit w7 1 (fun _ => .slice a7 U.length c7) _ (by unfold maxLen; omega) (by simp [cellsV])) (by intro i _; exact ⟨_, _, _, rfl⟩) (by omega) (by have := unhide HLN; omega) (by simp; omega) ?_; intro v8 w8 ho8 hg8 hv8; have hLA := LLs.add (unhide HL) hB2 (ho7.mono (ballo _ _).size) hb7' _ ho8 hg8 hv8; obtain ⟨a8, c8, rfl, -⟩ := hLA.1.rdx))
          go_roundw
          case rel => exact ⟨t + 1, _, by go_num, by omega, hide (by rw [unhide HE]; have h := hLA.1; rw [List.length_append] at h; exact h), hLA.2⟩
          case measure => simp [intOf]; omega
    · obtain rfl : t = P.length := by omega
      have HF : Hid (∀ v, LLs wr w2.heap.size v us (wdsV c R P) → WsPost c w1 (.returned v) wr) := fun v hv => ⟨v, us, _, rfl, wds_of (unhide HH).i (unhide HI), hv.base (unhide HB2).size, hB, (wdsV_lens (unhide HH).i (unhide HI)).1, (wdsV_lens (unhide HH).i (unhide HI)).2⟩
      have hLL := unhide HL
      rw [List.take_length] at hLL
      have HLL := hide hLL
      clear hLL HL
      go_wp2
      go_ret
      exact unhide HF _ (unhide HLL)

end Go.Proofs.Ytemalidanjfmkaa
