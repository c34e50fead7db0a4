/-
  Small words that TeachBack's walk uses.
-/
import Derived.Test.YtagoilabphmdfaaDoorUShB
import Derived.Test.YtagoilabphmdfaaDoorHWB
import Derived.Test.YtagoilabphmdfaaDoorHShow
import Derived.Test.YtagoilabphmdfaaDoorK1
namespace Go.Proofs.YtagoilabphmdfaaDoor
open Go.RowKit

theorem i64_and1023 (n : Int) : bits .and .i64 n 1023 = n % 1024 := by
  have h1 : (BitVec.ofInt 64 1023).toNat = 2 ^ 10 - 1 := by decide
  have key : (BitVec.ofInt 64 n &&& BitVec.ofInt 64 1023).toNat = (n % ((2 ^ 64 : Nat) : Int)).toNat % 2 ^ 10 := by
    rw [BitVec.toNat_and, BitVec.toNat_ofInt, h1, Nat.and_two_pow_sub_one_eq_mod]
  show IntKind.i64.wrap ((BitVec.ofInt 64 n &&& BitVec.ofInt 64 1023).toNat : Nat) = n % 1024
  rw [key, IntKind.wrap_i64]
  omega
/-- What the law makes of an answer. -/
def mkB (a : An) : An := if a.kind % 2 = 0 then ⟨1, a.out.map (fun y => y % 1024), []⟩ else ⟨2, [], []⟩
def mo (a : An) (j : Nat) : List Int := (a.out.take j).map fun y => y % 1024
theorem mo_zero (a : An) : mo a 0 = [] := by simp [mo]
theorem mo_len {a : An} {j : Nat} (h : j ≤ a.out.length) : (mo a j).length = j := by simp [mo]; omega
theorem mo_all (a : An) : mo a a.out.length = a.out.map (fun y => y % 1024) := by simp [mo]
theorem mo_succ {a : An} {j : Nat} (h : j < a.out.length) : mo a (j + 1) = mo a j ++ [a.out.getD j 0 % 1024] := by
  unfold mo
  rw [List.take_succ_eq_append_getElem h, List.map_append]
  simp [h]
theorem num9_mod (y : Int) : Num9 (y % 1024) := ⟨(y % 1024).toNat, by omega, by omega⟩
theorem mkB_back {a : An} (h : a.out.length ≤ 4096) : Back (mkB a) := by
  unfold mkB
  split
  · exact .inl ⟨_, rfl, fun x hx => by obtain ⟨y, -, rfl⟩ := List.mem_map.1 hx; exact num9_mod y, by simpa using h⟩
  · exact .inr rfl
theorem Num9.fits {x : Int} (h : Num9 x) : Fits x := by
  obtain ⟨u, rfl, hu⟩ := h
  unfold Fits
  omega
theorem num9_fit {l : List Int} (h : ∀ x ∈ l, Num9 x) : ∀ i, i < l.length → Fits (l.getD i 0) := fun i hi => by
  have := h l[i] (List.getElem_mem hi)
  have e : l.getD i 0 = l[i] := by simp [hi]
  rw [e]
  exact this.fits
/-- How many numbers there are. -/
def tot : List An → Nat
  | [] => 0
  | a :: l => a.out.length + tot l
theorem hugA_tot {most : Int} : ∀ (l : List An) (n : Int), hugA most l n = false → n ≤ most → n + (tot l : Int) ≤ most
  | [], n, _, hn => by simp [tot]; exact hn
  | a :: l, n, h, hn => by
    unfold hugA at h
    by_cases h1 : most - n < (a.out.length : Int)
    · rw [if_pos h1] at h; cases h
    · rw [if_neg h1] at h
      by_cases h2 : most - (n + (a.out.length : Int)) < (a.word.length : Int)
      · rw [if_pos h2] at h; cases h
      · rw [if_neg h2] at h
        have := hugA_tot l _ h (by omega)
        simp only [tot]
        omega
theorem nmL_five {x : List Int} (h : ∀ y ∈ x, Num9 y) : (nmL x).length ≤ 5 * x.length := by
  induction x with
  | nil => simp [nmL]
  | cons y x ih =>
    have := ih fun z hz => h z (by simp [hz])
    obtain ⟨u, rfl, hu⟩ := h y (by simp)
    have h2 := dcd_four hu
    unfold nmL at this ⊢
    rw [List.flatMap_cons, List.length_append, List.length_cons, List.length_cons, itoa_nat]
    omega
theorem sh_tot : ∀ l : List An, (shA (l.map mkB)).length ≤ 2 * l.length + 5 * tot l
  | [] => by simp [shA]
  | a :: l => by
    have ih := sh_tot l
    have hk : (lnA (mkB a)).length ≤ 2 + 5 * a.out.length := by
      unfold mkB
      split
      · have := nmL_five (x := a.out.map fun y => y % 1024) (fun x hx => by obtain ⟨y, -, rfl⟩ := List.mem_map.1 hx; exact num9_mod y)
        rw [List.length_map] at this
        simp only [lnA, if_true]
        simp only [List.length_append, List.length_cons, List.length_nil]
        omega
      · simp [lnA]
    unfold shA at ih ⊢
    rw [List.map_cons, List.flatMap_cons, List.length_append, List.length_cons]
    simp only [tot]
    omega
/-- All of it is short, and can be read back. -/
theorem back_all {l : List An} (h : hugV 4000 l = false) : (∀ a ∈ l.map mkB, Back a) ∧ (l.map mkB).length ≤ 4000 ∧ (shA (l.map mkB)).length ≤ 28000 := by
  have h1 := hugV_each h
  unfold hugV at h
  by_cases h0 : (4000 : Int) < (l.length : Int)
  · rw [if_pos h0] at h; cases h
  rw [if_neg h0] at h
  have h2 := hugA_tot l 0 h (by omega)
  have h3 := sh_tot l
  refine ⟨fun a ha => ?_, by rw [List.length_map]; omega, by omega⟩
  obtain ⟨b, hb, rfl⟩ := List.mem_map.1 ha
  exact mkB_back (by have := (h1 b hb).1; omega)
theorem Back.nine {a : An} (h : Back a) : An9 a := by
  rcases h with ⟨xs, rfl, h9, -⟩ | rfl
  · exact ⟨h9, fun x hx => (by cases hx)⟩
  · exact ⟨fun x hx => (by cases hx), fun x hx => (by cases hx)⟩
theorem an9_fit {l : List Pa} (h : ∀ a ∈ anL l, An9 a) : ∀ p ∈ l, (∀ i, i < p.an.out.length → Fits (p.an.out.getD i 0)) ∧ (∀ i, i < p.an.word.length → Fits (p.an.word.getD i 0)) := fun p hp =>
  have k := h p.an (List.mem_map_of_mem hp)
  ⟨num9_fit k.1, num9_fit k.2⟩
/-! memory -/
theorem Tri.keepC {w w' : World} {b : Nat} {u0 u1 u2 : Value} (h : Tri w b u0 u1 u2) (e : w'.heap[b]? = w.heap[b]?) : Tri w' b u0 u1 u2 := by
  have ec : ∀ i, w'.cell? ⟨b, i, none⟩ = w.cell? ⟨b, i, none⟩ := fun i => World.cell?_of_block (a := ⟨b, i, none⟩) e
  exact ⟨(ec _).trans h.p0, (ec _).trans h.p1, (ec _).trans h.p2⟩
theorem frzC {w w' : World} {b : Nat} (h : ∀ i, w.frozen? ⟨b, i, none⟩ = false) (e : w'.heap[b]? = w.heap[b]?) : ∀ i, w'.frozen? ⟨b, i, none⟩ = false := fun i => by
  have := h i
  unfold World.frozen? at this ⊢
  rw [e]; exact this
theorem frzD {w : World} {b : Nat} (h : ∀ i, w.frozen? ⟨b, i, none⟩ = false) (j : Nat) (v : Value) : ∀ i, (w.setCell ⟨b, j, none⟩ v).frozen? ⟨b, i, none⟩ = false := fun i => by
  have := h i
  simpa using this
theorem Tri.set1 {w : World} {b : Nat} {u0 u1 u2 : Value} (h : Tri w b u0 u1 u2) (v : Value) : Tri (w.setCell ⟨b, 1, none⟩ v) b u0 v u2 := by
  have ot : ∀ (u : World) (i j : Nat) (v : Value), i ≠ j → (u.setCell ⟨b, i, none⟩ v).cell? ⟨b, j, none⟩ = u.cell? ⟨b, j, none⟩ := fun u i j v hi => World.cell?_setCell_other (w := u) (a := ⟨b, i, none⟩) (b := ⟨b, j, none⟩) (v := v) (h := fun e => hi (by injection e with _ e2 _))
  exact ⟨(ot _ 1 0 _ (by decide)).trans h.p0, World.cell?_setCell_same w ⟨b, 1, none⟩ v h.p1, (ot _ 1 2 _ (by decide)).trans h.p2⟩

end Go.Proofs.YtagoilabphmdfaaDoor
