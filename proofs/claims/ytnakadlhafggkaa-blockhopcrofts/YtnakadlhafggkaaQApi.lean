/-
  What the program's New, Class, Count and All return.
-/
import Derived.Test.YtnakadlhafggkaaQNew
import Derived.Test.YtnakadlhafggkaaQMove
namespace Go.Proofs.Ytnakadlhafggkaa
open Go.RowKit Go.Maps

theorem iotaP_tab (n : Nat) : iotaP n n = tab n (fun i => i) := by
  unfold iotaP tab
  apply List.map_congr_left
  intro i hi
  rw [if_pos (List.mem_range.1 hi)]
theorem zeros_tab (n : Nat) : List.replicate n (0 : Int) = tab n (fun _ => 0) := by
  refine List.ext_getElem? fun i => ?_
  by_cases h : i < n <;> simp [tab, h]
/-- What New leaves, where n is right. -/
def NwPost (n : Nat) (w : World) (e : Ending) (w' : World) : Prop :=
  ∃ p gs, e = .returned (.tuple #[.pointer (some ⟨p.b, 0, none⟩), .int .i64 0]) ∧ p.n = n ∧ (∀ k, p.has gs k → w.heap.size ≤ k) ∧ PtS w' p gs 1 (St.start n) ∧ Below w.heap.size w w'
theorem new_ok (n : Nat) (w : World) (h0 : 1 ≤ n) (h1 : n ≤ 65536) : Calls Try.prog 10 #[.int .i64 (n : Nat)] w fun e w' => NwPost n w e w' := by
  have h0' : ¬ ((n : Int) < 1) := by omega
  have h1' : ¬ ((65536 : Int) < (n : Int)) := by omega
  go_enter Try.func10, Try.ntmps10
  go_wp2_with fail
  refine (newPart_any n w h0 h1).mono ?_
  rintro e w1 ⟨p, gs, rfl, hn, hlo, hat, hb⟩
  have HAT := hide hat
  have HLO := hide hlo
  have HN := hide hn
  clear hat hlo hn
  go_wp2
  go_ret2
  refine ⟨p, gs, rfl, unhide HN, unhide HLO, ?_, hb⟩
  have h := unhide HAT
  rw [iotaP_tab, zeros_tab] at h
  unfold PtS
  rw [unhide HN]
  exact h
theorem new_low (n : Int) (w : World) (h : n < 1) : Calls Try.prog 10 #[.int .i64 n] w fun e w' => e = .returned (.tuple #[.pointer none, .int .i64 1]) ∧ w' = w := by
  go_enter Try.func10, Try.ntmps10
  go_wp2
  go_ret2
  exact ⟨rfl, rfl⟩
theorem new_high (n : Int) (w : World) (h : 65536 < n) : Calls Try.prog 10 #[.int .i64 n] w fun e w' => e = .returned (.tuple #[.pointer none, .int .i64 3]) ∧ w' = w := by
  have h0' : ¬ (n < 1) := by omega
  go_enter Try.func10, Try.ntmps10
  go_wp2
  go_ret2
  exact ⟨rfl, rfl⟩

section
variable {w : World} {p : Pp} {gs cap : Nat} {s : St}
theorem class_ok (h : PtS w p gs cap s) {i : Nat} (hi : i < p.n) : Calls Try.prog 20 #[.pointer (some ⟨p.b, 0, none⟩), .int .i64 (i : Nat)] w fun e w' => e = .returned (.tuple #[.int .i64 (s.c i : Nat), .int .i64 0]) ∧ w' = w := by
  have c2 := PtAt.c2 h
  have hc := (PtAt.cls h hi).1
  rw [tab_at _ hi] at hc
  have HO := hide (holds_any h (i : Nat))
  clear h
  go_enter Try.func20, Try.ntmps20
  go_wp2_with fail
  refine (unhide HO).mono ?_
  rw [decide_eq_true (show 0 ≤ ((i : Nat) : Int) ∧ ((i : Nat) : Int) < (p.n : Int) by omega)]
  rintro e w1 ⟨rfl, rfl⟩
  clear HO
  go_wp2
  go_ret2
  exact ⟨rfl, rfl⟩
theorem class_bad (h : PtS w p gs cap s) (i : Int) (hi : ¬ (0 ≤ i ∧ i < (p.n : Int))) : Calls Try.prog 20 #[.pointer (some ⟨p.b, 0, none⟩), .int .i64 i] w fun e w' => e = .returned (.tuple #[.int .i64 0, .int .i64 1]) ∧ w' = w := by
  have HO := hide (holds_any h i)
  have HI := hide hi
  clear h hi
  go_enter Try.func20, Try.ntmps20
  go_wp2_with fail
  refine (unhide HO).mono ?_
  rw [decide_eq_false (unhide HI)]
  rintro e w1 ⟨rfl, rfl⟩
  clear HO
  go_wp2
  go_ret2
  exact ⟨rfl, rfl⟩
theorem count_any (h : PtS w p gs cap s) : Calls Try.prog 18 #[.pointer (some ⟨p.b, 0, none⟩)] w fun e w' => e = .returned (.int .i64 (s.K : Nat)) ∧ w' = w := by
  have c3 := PtAt.c3 h
  clear h
  go_enter Try.func18, Try.ntmps18
  go_wp2
  go_ret
  exact ⟨rfl, rfl⟩
theorem clone_any (b off c : Nat) (l : List Int) (w : World) (hr : RdL .i64 w (some ⟨b, off, none⟩) l) (hl : l.length ≤ 1000000) :
    Calls Try.prog 33 #[.slice (some ⟨b, off, none⟩) l.length c] w fun e w' => ∃ v, e = .returned v ∧ OwnL .i64 3 w' w.heap.size v l ∧ Below w.heap.size w w' := by
  have q : ∀ (w : World) (a : Option Addr) (n c n' c' : Nat), (binOp .eql 29 (.slice a n c) (.slice none n' c')).run Try.prog w = .ok (.bool a.isNone) w := fun w a n c n' c' => Lib.run_eql_slice_nil w _ _ a n c n' c' Try.underlying29
  have HR := hide (hr.below (ballo w (.cells #[] 3)))
  have O0 : OwnL .i64 3 (w.alloc (.cells #[] 3)) w.heap.size (.slice (some ⟨w.heap.size, 0, none⟩) 0 0) [] := OwnL.lit w w.heap.size [] #[] (Nat.le_refl _) (by unfold maxLen; simp) rfl
  have HO := hide O0
  clear hr O0
  go_enter Try.func33, Try.ntmps33
  go_wp2_with (at_builtin; refine wpl_pushA eInt rfl (.tmp 5) (.tmp 6) rfl w.heap.size _ [] rfl (unhide HO) ⟨b, off, none⟩ c l rfl (unhide HR) (by simp; omega) (by simp) ?_; intro v w1 hv hb hg _)
  go_ret
  exact ⟨v, rfl, by simpa using hv, (ballo w _).trans hb⟩
theorem all_any (h : PtS w p gs cap s) (hn : p.n ≤ 65536) : Calls Try.prog 17 #[.pointer (some ⟨p.b, 0, none⟩)] w fun e w' => ∃ v, e = .returned v ∧ OwnL .i64 3 w' w.heap.size v (tab p.n s.c) ∧ Below w.heap.size w w' := by
  have c2 := PtAt.c2 h
  have hr : RdL .i64 w (some ⟨p.gc, 0, none⟩) (tab p.n s.c) := .inr ⟨p.gc, 0, rfl, fun i hi => by rw [Nat.zero_add]; exact (PtAt.cls h (by rw [tab_len] at hi; exact hi)).1⟩
  have CL := clone_any p.gc 0 p.n (tab p.n s.c) w hr (by rw [tab_len]; omega)
  rw [tab_len] at CL
  have HC := hide CL
  clear h hr CL
  go_enter Try.func17, Try.ntmps17
  go_wp2_with fail
  refine (unhide HC).mono ?_
  rintro e w1 ⟨v, rfl, hv, hb⟩
  go_wp2
  go_ret
  exact ⟨v, rfl, hv, hb⟩
end
/-! Of a nil object. -/
theorem split_nil (v : Value) (w : World) : Calls Try.prog 14 #[.pointer none, v] w fun e w' => e = .returned (.tuple #[.slice none 0 0, .int .i64 5]) ∧ w' = w := by
  go_enter Try.func14, Try.ntmps14
  go_wp2
  go_ret2
  exact ⟨rfl, rfl⟩
theorem class_nil (i : Int) (w : World) : Calls Try.prog 20 #[.pointer none, .int .i64 i] w fun e w' => e = .returned (.tuple #[.int .i64 0, .int .i64 5]) ∧ w' = w := by
  go_enter Try.func20, Try.ntmps20
  go_wp2
  go_ret2
  exact ⟨rfl, rfl⟩
theorem members_nil (i : Int) (w : World) : Calls Try.prog 21 #[.pointer none, .int .i64 i] w fun e w' => e = .returned (.tuple #[.slice none 0 0, .int .i64 5]) ∧ w' = w := by
  go_enter Try.func21, Try.ntmps21
  go_wp2
  go_ret2
  exact ⟨rfl, rfl⟩
theorem count_nil (w : World) : Calls Try.prog 18 #[.pointer none] w fun e w' => e = .returned (.int .i64 0) ∧ w' = w := by
  go_enter Try.func18, Try.ntmps18
  go_wp2
  go_ret
  exact ⟨rfl, rfl⟩
theorem all_nil (w : World) : Calls Try.prog 17 #[.pointer none] w fun e w' => e = .returned (.slice none 0 0) ∧ w' = w := by
  go_enter Try.func17, Try.ntmps17
  go_wp2
  go_ret
  exact ⟨rfl, rfl⟩
end Go.Proofs.Ytnakadlhafggkaa
