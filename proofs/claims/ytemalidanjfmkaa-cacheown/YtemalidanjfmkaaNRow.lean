/-
  The program's row of entries in memory; how it finds a child.
-/
import Derived.Test.YtemalidanjfmkaaUTrc
import Derived.Test.YtemalidanjfmkaaK19
import Derived.Test.YtemalidanjfmkaaK3
namespace Go.Proofs.Ytemalidanjfmkaa
open Go.RowKit

def enL (e : En) : List Value := [.int .i64 (e.p : Int), .int .i64 e.s, .int .i64 (e.c : Int), .int .i64 (e.n : Int), .bool e.kn, .int .i64 e.la]
theorem enL_len (e : En) : (enL e).length = 6 := rfl
theorem eEnt : EltG 87 63 (.agg #[.int .i64 0, .int .i64 0, .int .i64 0, .int .i64 0, .bool false, .int .i64 0]) 6 48 enL := ⟨Try.underlying63, by kernel_rfl, rfl, by decide, enL_len, fun x u hu => by
  simp [enL] at hu
  rcases hu with rfl | rfl | rfl | rfl | rfl | rfl <;> rfl⟩
/-- A row reads so. -/
def RdR (w : World) (g : Nat) (R : List En) : Prop := ∀ i, i < R.length → ∀ j, j < 6 → w.cell? ⟨g, i * 6 + j, none⟩ = (enL (ea R i))[j]?
theorem RdR.below {w w' : World} {g : Nat} {R : List En} (h : RdR w g R) (hb : Below w.heap.size w w') : RdR w' g R := fun i hi j hj => by
  have h0 := h i hi j hj
  rw [List.getElem?_eq_getElem (by rw [enL_len]; exact hj)] at h0 ⊢
  exact (hb.cell (World.block_lt_of_cell? w _ h0)).trans h0
section
variable {w : World} {g : Nat} {R : List En} (h : RdR w g R) {i : Nat} (hi : i < R.length)
include h hi
theorem RdR.p : w.cell? ⟨g, i * 6, none⟩ = some (.int .i64 ((ea R i).p : Int)) := h i hi 0 (by omega)
theorem RdR.s : w.cell? ⟨g, i * 6 + 1, none⟩ = some (.int .i64 (ea R i).s) := h i hi 1 (by omega)
theorem RdR.c : w.cell? ⟨g, i * 6 + 2, none⟩ = some (.int .i64 ((ea R i).c : Int)) := h i hi 2 (by omega)
theorem RdR.n : w.cell? ⟨g, i * 6 + 3, none⟩ = some (.int .i64 ((ea R i).n : Int)) := h i hi 3 (by omega)
theorem RdR.kn : w.cell? ⟨g, i * 6 + 4, none⟩ = some (.bool (ea R i).kn) := h i hi 4 (by omega)
theorem RdR.la : w.cell? ⟨g, i * 6 + 5, none⟩ = some (.int .i64 (ea R i).la) := h i hi 5 (by omega)
end

set_option maxRecDepth 100000 in
set_option maxHeartbeats 2000000 in
theorem around_any (R : List En) (bg : List (List Int)) (g cap a : Nat) (x : Int) (w : World) (T : Tr R bg) (hr : RdR w g R) (ha : a < R.length) :
    Calls Try.prog 63 #[.slice (some ⟨g, 0, none⟩) R.length cap, .int .i64 a, .int .i64 x] w fun e w' => ∃ bf bh : Nat, e = .returned (.tuple #[.int .i64 bf, .int .i64 bh]) ∧ Goi R a x bf bh ∧ Fst R a (x - 1) bh ∧ Below w.heap.size w w' := by
  have HR := hide hr
  have HT := hide T
  have hc := hr.c ha
  have ha' : (a : Int) < (R.length : Int) := by omega
  clear hr T
  go_enter Try.func63, Try.ntmps63
  go_wp2
  go_quiet (fail)
  go_wp2
  go_loopw [6, 7] (fun u v wr => ∃ bf bh : Nat, u = .int .i64 bf ∧ v = .int .i64 bh ∧ Hid (Goi R a x bf bh) ∧ Below w.heap.size w wr) (fun _ v _ => msr R (intOf v).toNat)
  case atStart => exact ⟨0, _, rfl, rfl, hide (.inl ⟨rfl, rfl⟩), below_drewN (Below.refl _ _) _⟩
  case round =>
    obtain ⟨bf, bh, rfl, rfl, HG, hB⟩ := hrel
    have hbl := ((unhide HG).bh (unhide HT) ha).1
    have hbl' : (bh : Int) < (R.length : Int) := by omega
    by_cases h0 : bh = 0
    · have HF := hide ((unhide HG).end (unhide HT) ha (.inl h0))
      have t0 : ((bh : Int) != 0) = false := by simp [h0]
      clear hc
      go_wp2
      go_ret2
      exact ⟨bf, bh, rfl, unhide HG, unhide HF, hB⟩
    · have t0 : ((bh : Int) != 0) = true := by simp [h0]
      have r := (unhide HR).below hB
      have c1 := r.s hbl
      have c2 := r.n hbl
      by_cases hx : (ea R bh).s < x
      · have HN := hide ((unhide HG).next (unhide HT) ha h0 hx)
        have HM := hide ((unhide HT).msr_lt ha (unhide HG) h0)
        clear hc r h0
        go_wp2
        go_quiet (fail)
        go_wp2
        go_roundw
        case rel => exact ⟨bh, _, rfl, rfl, HN, below_drewN hB _⟩
        case measure => exact unhide HM
      · have HF := hide ((unhide HG).end (unhide HT) ha (.inr (by omega)))
        clear hc r h0 c2
        go_wp2
        go_ret2
        exact ⟨bf, bh, rfl, unhide HG, unhide HF, hB⟩

/-- The place of the word at a with x behind it; or none. -/
def Cby (R : List En) (bg : List (List Int)) (a : Nat) (x : Int) (y : Nat) : Prop := (y ≠ 0 ∧ y < R.length ∧ wa bg y = wa bg a ++ [x]) ∨ (y = 0 ∧ wa bg a ++ [x] ∉ bg)
set_option maxRecDepth 100000 in
set_option maxHeartbeats 2000000 in
theorem childBy_any (R : List En) (bg : List (List Int)) (g cap a : Nat) (x : Int) (w : World) (T : Tr R bg) (hr : RdR w g R) (ha : a < R.length) :
    Calls Try.prog 56 #[.slice (some ⟨g, 0, none⟩) R.length cap, .int .i64 a, .int .i64 x] w fun e w' => ∃ y : Nat, e = .returned (.int .i64 y) ∧ Cby R bg a x y ∧ Below w.heap.size w w' := by
  have hA := around_any R bg g cap a x w T hr ha
  have HR := hide hr
  have HT := hide T
  clear hr T
  go_enter Try.func56, Try.ntmps56
  go_wp2_with fail
  refine hA.mono ?_
  rintro e w1 ⟨bf, bh, rfl, hg, hf, hb1⟩
  have hbl := hf.lt (unhide HT).pos
  have hbl' : (bh : Int) < (R.length : Int) := by omega
  have c1 := ((unhide HR).below hb1).s hbl
  have hby := Fst.by (unhide HT) hf
  by_cases h0 : bh = 0
  · have t0 : ((bh : Int) != 0) = false := by simp [h0]
    have HY : Hid (Cby R bg a x bh) := .inr ⟨h0, by
      rcases hby with ⟨h, -⟩ | ⟨-, h⟩
      · exact absurd h0 h
      · exact h ha⟩
    clear hg hf hby h0 c1
    go_wp2
    go_ret
    exact ⟨bh, rfl, unhide HY, hb1⟩
  · have t0 : ((bh : Int) != 0) = true := by simp [h0]
    by_cases hx : (ea R bh).s = x
    · have t1 : ((ea R bh).s != x) = false := by simp [hx]
      have HY : Hid (Cby R bg a x bh) := .inl (by
        rcases hby with ⟨h1, h2, h3, h4⟩ | ⟨h, -⟩
        · exact ⟨h1, h3, h4⟩
        · rcases h with h | h
          · exact absurd h h0
          · exact absurd hx h)
      clear hg hf hby h0 hx
      go_wp2
      go_ret
      exact ⟨bh, rfl, unhide HY, hb1⟩
    · have t1 : ((ea R bh).s != x) = true := by simp [hx]
      have HY : Hid (Cby R bg a x 0) := .inr ⟨rfl, by
        rcases hby with ⟨-, h, -⟩ | ⟨-, h⟩
        · exact absurd h hx
        · exact h ha⟩
      clear hg hf hby h0 hx
      go_wp2
      go_ret
      exact ⟨0, rfl, unhide HY, hb1⟩

end Go.Proofs.Ytemalidanjfmkaa
