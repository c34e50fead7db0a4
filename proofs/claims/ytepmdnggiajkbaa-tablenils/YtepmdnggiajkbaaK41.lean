/-
  Some texts of this seat, one behind the other.
-/
import Derived.Test.YtepmdnggiajkbaaK39
import Derived.Test.YtepmdnggiajkbaaK40
import Derived.Test.YtepmdnggiajkbaaUSin
/-
  Tables in plain words: what holds of a table that calls have made stays so.
-/
namespace Go.Proofs.Ytepmdnggiajkbaa
set_option linter.unusedVariables false
open Go.RowKit

/-- What holds of a table that calls have made, by its cells and columns. -/
structure Tk (t : Tb) : Prop where
  kd : t.kind = 1 ∨ t.kind = 2
  k0 : 1 ≤ t.k
  k1 : t.k ≤ 64
  o0 : 1 ≤ t.o
  o1 : t.o ≤ 64
  od : t.kind = 1 → t.o = 2
  ok : ∀ i, i < t.ws.length → (t.kind = 1 → (t.os.getD i []).length = 1) ∧ (t.kind = 2 → (t.os.getD i []).length = (t.ws.getD i []).length) ∧ ∀ y ∈ t.os.getD i [], 0 ≤ y ∧ y < t.o
  cs : ∃ L, t.cols = tnC t.kind t.k ++ L
theorem Tk.new {kind k o : Int} (h : tnE kind k o = 0) : Tk (tnV kind k o) := by
  unfold tnE at h
  split at h
  · omega
  split at h
  · omega
  split at h
  · omega
  exact ⟨by show kind = 1 ∨ kind = 2; omega, by show 1 ≤ k; omega, by show k ≤ 64; omega, by show 1 ≤ o; omega, by show o ≤ 64; omega, fun hk => by have : kind = 1 := hk; show o = 2; omega, fun i hi => by exact absurd hi (Nat.not_lt_zero _), [], by show tnC kind k = _; rw [List.append_nil]; rfl⟩
theorem Tk.adR {t : Tb} (T : Tk t) (w : List Int) : Tk (adR t w).1 := by
  unfold Go.Proofs.Ytepmdnggiajkbaa.adR
  split
  · exact T
  split
  · exact T
  split
  · exact T
  split
  · exact T
  exact ⟨T.kd, T.k0, T.k1, T.o0, T.o1, T.od, T.ok, T.cs⟩
theorem Tk.adC {t : Tb} (T : Tk t) (w : List Int) : Tk (adC t w).1 := by
  unfold Go.Proofs.Ytepmdnggiajkbaa.adC
  split
  · exact T
  split
  · exact T
  split
  · exact T
  split
  · exact T
  obtain ⟨L, hL⟩ := T.cs
  exact ⟨T.kd, T.k0, T.k1, T.o0, T.o1, T.od, T.ok, L ++ [w], by show t.cols ++ [w] = _; rw [hL, List.append_assoc]⟩
theorem Tab.tok {B : Nat} {w : World} {p : Tl} {s : Ts} {t : Tb} (T : Tab B w p s t) (K : Tk t) : Tok t :=
  ⟨K.kd, K.k0, K.k1, K.o0, K.o1, K.od, T.vw.ln, K.ok, K.cs, by rw [T.vw.rl]; exact T.vw.r1, by rw [T.vw.rl]; exact T.v.rl, fun r hr => by
    obtain ⟨i, hi, e, _⟩ := T.vw.row_line T.v hr
    rw [← e]
    exact T.v.wl1 (T.v.rwlt hi)⟩

end Go.Proofs.Ytepmdnggiajkbaa

/-
  Tables in plain words: Put keeps what holds of a table that calls have made.
-/
namespace Go.Proofs.Ytepmdnggiajkbaa
set_option linter.unusedVariables false
open Go.RowKit

theorem ptA_ok {t : Tb} {w out : List Int} (h : ptA t w out = 0) : (t.kind = 1 ∧ out.length = 1 ∧ inB 2 out = true) ∨ (t.kind = 2 ∧ out.length = w.length ∧ inB t.o out = true) := by
  unfold ptA chkA at h
  rw [if_neg (by simp), if_neg (by simp)] at h
  split at h
  · rename_i c; exact c.2.2
  · cases h
theorem ptA_of {t : Tb} {w out : List Int} (h : (t.kind = 1 ∧ out.length = 1 ∧ inB 2 out = true) ∨ (t.kind = 2 ∧ out.length = w.length ∧ inB t.o out = true)) : ptA t w out = 0 := by
  unfold ptA chkA
  rw [if_neg (by simp), if_neg (by simp), if_pos]
  exact ⟨rfl, rfl, h⟩
theorem inB_mem {b : Int} {l : List Int} (h : inB b l = true) : ∀ x ∈ l, 0 ≤ x ∧ x < b := fun x hx => of_decide_eq_true (List.all_eq_true.1 h x hx)
theorem ptT_new {t : Tb} {w out : List Int} (h1 : wdE w t.k = 0) (h2 : ptA t w out = 0) (h3 : w ∉ t.ws) : ptT t w out = ({ t with ws := t.ws ++ [w], os := t.os ++ [out] }, 0) := by
  unfold ptT
  rw [if_neg (by simp [h1]), if_neg (by simp [h2])]
  have : plcO t.ws w = none := by unfold plcO; rw [if_neg h3]
  rw [this]
theorem ptT_cases (t : Tb) (w out : List Int) : (ptT t w out).1 = t ∨ (wdE w t.k = 0 ∧ ptA t w out = 0 ∧ w ∉ t.ws ∧ ptT t w out = ({ t with ws := t.ws ++ [w], os := t.os ++ [out] }, 0)) := by
  by_cases h1 : wdE w t.k = 0
  · by_cases h2 : ptA t w out = 0
    · by_cases h3 : w ∈ t.ws
      · left
        unfold ptT
        rw [if_neg (by simp [h1]), if_neg (by simp [h2])]
        have : plcO t.ws w = some (t.ws.idxOf w) := by unfold plcO; rw [if_pos h3]
        rw [this]
        show (if t.os.getD (t.ws.idxOf w) [] = out then (t, (0 : Int)) else (t, 111)).1 = t
        split <;> rfl
      · exact .inr ⟨h1, h2, h3, ptT_new h1 h2 h3⟩
    · left; unfold ptT; rw [if_neg (by simp [h1]), if_pos h2]
  · left; unfold ptT; rw [if_pos h1]
theorem Tk.ptT {t : Tb} (T : Tk t) (hl : t.os.length = t.ws.length) (w out : List Int) : Tk (ptT t w out).1 := by
  rcases ptT_cases t w out with h | ⟨h1, h2, h3, h⟩
  · rw [h]; exact T
  · rw [h]
    refine ⟨T.kd, T.k0, T.k1, T.o0, T.o1, T.od, fun i hi => ?_, T.cs⟩
    have hi' : i < (t.ws ++ [w]).length := hi
    rw [List.length_append, List.length_singleton] at hi'
    show (t.kind = 1 → ((t.os ++ [out]).getD i []).length = 1) ∧ (t.kind = 2 → ((t.os ++ [out]).getD i []).length = ((t.ws ++ [w]).getD i []).length) ∧ ∀ y ∈ (t.os ++ [out]).getD i [], 0 ≤ y ∧ y < t.o
    by_cases c : i < t.ws.length
    · rw [List.getD_eq_getElem?_getD, List.getElem?_append_left (by omega), ← List.getD_eq_getElem?_getD, List.getD_eq_getElem?_getD (l := t.ws ++ [w]), List.getElem?_append_left c, ← List.getD_eq_getElem?_getD]
      exact T.ok i c
    · obtain rfl : i = t.ws.length := by omega
      have e1 : (t.os ++ [out]).getD t.ws.length [] = out := by rw [← hl]; simp
      have e2 : (t.ws ++ [w]).getD t.ws.length [] = w := by simp
      rw [e1, e2]
      rcases ptA_ok h2 with ⟨k, a, b⟩ | ⟨k, a, b⟩
      · refine ⟨fun _ => a, fun k2 => by omega, fun y hy => ?_⟩
        have := inB_mem b y hy; have := T.od k; omega
      · exact ⟨fun k2 => by omega, fun _ => a, fun y hy => inB_mem b y hy⟩

end Go.Proofs.Ytepmdnggiajkbaa
