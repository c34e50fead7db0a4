/-
  Some texts of this seat, one behind the other.
-/
import Derived.BigQuiet
import Derived.Deep.OwnRows
import Derived.Test.YtbhdcgebcmgidaaDoorGParseW
import Derived.Test.YtbhdcgebcmgidaaDoorK2
import Derived.Test.YtbhdcgebcmgidaaDoorK22
import Derived.Test.YtbhdcgebcmgidaaDoorTGp
import Derived.Test.YtbhdcgebcmgidaaDoorTRDot
import Derived.Test.YtbhdcgebcmgidaaDoorTRLab
/-
  The program's isName, Label and allLabels.
-/
namespace Go.Proofs.YtbhdcgebcmgidaaDoor
open Go.RowKit

theorem enc_eq {r : Int} (hv : Lib.validRune r = true) : Utf8.encode r = ⟨(Lib.encodeRune r).toArray⟩ := by
  unfold Lib.validRune at hv
  have hv' := of_decide_eq_true hv
  obtain ⟨k, rfl⟩ := Int.eq_ofNat_of_zero_le (show 0 ≤ r by omega)
  have h1 : Utf8.valid (k : Int) = true := by
    unfold Utf8.valid
    rcases hv' with ⟨a, b⟩ | ⟨a, b⟩
    · simp; omega
    · simp; omega
  unfold Utf8.encode
  rw [if_pos h1]
  simp only [Int.toNat_natCast]
  unfold Lib.encodeRune
  by_cases c1 : k < 0x80
  · rw [if_pos c1, Lib.encodeRuneZ_one (by omega) (by omega)]; simp
  · rw [if_neg c1]
    by_cases c2 : k < 0x800
    · rw [if_pos c2, Lib.encodeRuneZ_two (by omega) (by omega), show (192 + (k : Int) / 64) = ((192 + k / 64 : Nat) : Int) by omega, show (128 + (k : Int) % 64) = ((128 + k % 64 : Nat) : Int) by omega]
      rfl
    · rw [if_neg c2]
      by_cases c3 : k < 0x10000
      · rw [if_pos c3, Lib.encodeRuneZ_three (by omega), show (224 + (k : Int) / 4096) = ((224 + k / 4096 : Nat) : Int) by omega, show (128 + (k : Int) / 64 % 64) = ((128 + k / 64 % 64 : Nat) : Int) by omega, show (128 + (k : Int) % 64) = ((128 + k % 64 : Nat) : Int) by omega]
        rfl
      · rw [if_neg c3, Lib.encodeRuneZ_four (by omega) (by omega), show (240 + (k : Int) / 262144) = ((240 + k / 262144 : Nat) : Int) by omega, show (128 + (k : Int) / 4096 % 64) = ((128 + k / 4096 % 64 : Nat) : Int) by omega, show (128 + (k : Int) / 64 % 64) = ((128 + k / 64 % 64 : Nat) : Int) by omega, show (128 + (k : Int) % 64) = ((128 + k % 64 : Nat) : Int) by omega]
        rfl
theorem conv_rune {r : Int} (hv : Lib.validRune r = true) (w : World) : (convert 21 9 (.int .i32 r)).run Tryd.prog w = .ok (.string ⟨(Lib.encodeRune r).toArray⟩) w := by
  rw [← enc_eq hv]
  unfold convert
  simp [Sem.run_bind, go_sem, Conv.intToString, Result.andThen]

/-- Is it a name? -/
def nmB (r : Int) : Bool := Lib.validRune r && !(decide (r < 33 ∨ r = 127))
set_option maxRecDepth 100000 in
set_option maxHeartbeats 2000000 in
theorem isNameD_any (r : Int) (w : World) : Calls Tryd.prog 22 #[.int .i32 r] w fun e w' => e = .returned (.bool (nmB r)) ∧ Below w.heap.size w w' := by
  by_cases hv : Lib.validRune r = true
  rotate_left
  · have H := hide (show nmB r = false by unfold nmB; simp [hv])
    have hv' : Lib.validRune r = false := by simpa using hv
    go_enter Tryd.func22, Tryd.ntmps22
    go_wp2_with (go_at_call 34; refine (validRune_any _ _).mono ?_; rw [hv']; rintro e w' ⟨rfl, rfl⟩)
    go_ret
    exact ⟨by rw [unhide H]; rfl, Below.refl _ _⟩
  · have hp := Parse_any ⟨(Lib.encodeRune r).toArray⟩ w
    rw [prs_one hv] at hp
    have hcv := conv_rune hv w
    by_cases hn : r < 33 ∨ r = 127
    · rw [if_pos hn] at hp
      have H := hide (show nmB r = false by unfold nmB; simp [hn])
      clear hn
      go_enter Tryd.func22, Tryd.ntmps22
      go_wp2_with (first | (go_at_call 34; refine (validRune_any _ _).mono ?_; rw [hv]; rintro e w' ⟨rfl, hw⟩; subst w') | (go_at_call 35; refine hp.mono ?_; rintro e w1 ⟨v1, rfl, -, hb1⟩))
      go_ret
      exact ⟨by rw [unhide H]; rfl, by assumption⟩
    · rw [if_neg hn] at hp
      have H := hide (show nmB r = true by unfold nmB; rw [hv]; simpa using hn)
      clear hn
      go_enter Tryd.func22, Tryd.ntmps22
      go_wp2_with (first | (go_at_call 34; refine (validRune_any _ _).mono ?_; rw [hv]; rintro e w' ⟨rfl, hw⟩; subst w') | (go_at_call 35; refine hp.mono ?_; rintro e w1 ⟨v1, rfl, -, hb1⟩))
      go_ret
      exact ⟨by rw [unhide H]; rfl, by assumption⟩

set_option maxRecDepth 100000 in
set_option maxHeartbeats 4000000 in
theorem dlabel_any (a : Option Addr) (c : Nat) (names : List Int) (x : Int) (w : World) (hr : RdL .i32 w a names) :
    Calls Tryd.prog 11 #[.slice a names.length c, .int .i64 x] w fun e w' => e = .returned (.tuple #[.string ⟨(lbV names x).1.toArray⟩, .int .i64 (lbV names x).2]) ∧ Below w.heap.size w w' := by
  by_cases h0 : x < 0
  · have H := hide (show lbV names x = ([], 10) by unfold lbV; rw [if_pos (.inl h0)])
    go_enter Tryd.func11, Tryd.ntmps11
    go_wp2
    go_ret2
    rw [unhide H]
    exact ⟨rfl, Below.refl _ _⟩
  by_cases h1 : (names.length : Int) ≤ x
  · have H := hide (show lbV names x = ([], 10) by unfold lbV; rw [if_pos (.inr h1)])
    go_enter Tryd.func11, Tryd.ntmps11
    go_wp2
    go_ret2
    rw [unhide H]
    exact ⟨rfl, Below.refl _ _⟩
  obtain ⟨X, rfl⟩ := Int.eq_ofNat_of_zero_le (show 0 ≤ x by omega)
  have hX : X < names.length := by omega
  have HL : Hid (lbV names (X : Int) = if Lib.validRune (names.getD X 0) = false ∨ names.getD X 0 < 33 ∨ names.getD X 0 = 127 then ([], 20) else if names.getD X 0 = 34 ∨ names.getD X 0 = 92 then ([92] ++ Lib.encodeRune (names.getD X 0), 0) else (Lib.encodeRune (names.getD X 0), 0)) := by
    show _ = _
    unfold lbV
    rw [if_neg (by omega), Int.toNat_natCast]
  have h1' : ¬ ((X : Int) ≥ (names.length : Int)) := by omega
  obtain ⟨b, off, rfl, hcs⟩ := hr.at hX
  have hcx := hcs X hX
  clear hcs
  have hnm : ∀ r, nmB r = (Lib.validRune r && !(decide (r < 33 ∨ r = 127))) := fun _ => rfl
  generalize names.getD X 0 = r at *
  by_cases hn : nmB r = true
  rotate_left
  · have hn' : nmB r = false := by simpa using hn
    have H := hide ((unhide HL).trans (if_pos (by
      rw [hnm] at hn
      cases hv : Lib.validRune r
      · exact .inl rfl
      · right; rw [hv] at hn; simp at hn; omega)))
    clear hn HL hnm
    go_enter Tryd.func11, Tryd.ntmps11
    go_wp2_with (go_at_call 22; refine (isNameD_any _ _).mono ?_; rw [hn']; rintro e w1 ⟨rfl, hb1⟩)
    go_ret2
    rw [unhide H]
    exact ⟨rfl, by assumption⟩
  · have hv : Lib.validRune r = true := by rw [hnm] at hn; simp at hn; exact hn.1
    have H0 := hide ((unhide HL).trans (if_neg (by
      rw [hnm, hv] at hn; rw [hv]; simp at hn; simp; omega)))
    clear HL hnm
    have hcv := conv_rune hv
    by_cases hq : r = 34
    · have H := hide ((unhide H0).trans (if_pos (.inl hq)))
      subst hq
      clear hv H0
      have he : Lib.encodeRune 34 = [34] := by decide
      rw [he] at hcv H
      go_enter Tryd.func11, Tryd.ntmps11
      go_wp2_with (go_at_call 22; refine (isNameD_any _ _).mono ?_; rw [hn]; rintro e w1 ⟨rfl, hb1⟩)
      go_ret2
      rw [unhide H]
      exact ⟨rfl, by assumption⟩
    by_cases hq2 : r = 92
    · have H := hide ((unhide H0).trans (if_pos (.inr hq2)))
      subst hq2
      clear hv H0 hq
      have he : Lib.encodeRune 92 = [92] := by decide
      rw [he] at hcv H
      go_enter Tryd.func11, Tryd.ntmps11
      go_wp2_with (go_at_call 22; refine (isNameD_any _ _).mono ?_; rw [hn]; rintro e w1 ⟨rfl, hb1⟩)
      go_ret2
      rw [unhide H]
      exact ⟨rfl, by assumption⟩
    · have H := hide ((unhide H0).trans (if_neg (by omega)))
      have t1 : (r == 34) = false := by simpa using hq
      have t2 : (r == 92) = false := by simpa using hq2
      clear hv H0 hq hq2
      go_enter Tryd.func11, Tryd.ntmps11
      go_wp2_with (go_at_call 22; refine (isNameD_any _ _).mono ?_; rw [hn]; rintro e w1 ⟨rfl, hb1⟩)
      go_ret2
      rw [unhide H]
      exact ⟨rfl, by assumption⟩

end Go.Proofs.YtbhdcgebcmgidaaDoor

/-
  The program's allLabels.
-/
namespace Go.Proofs.YtbhdcgebcmgidaaDoor
open Go.RowKit

theorem infoStr : (Tryd.prog.info? 9).map (fun i => (i.zero, i.size, i.bytes)) = some (some (.string ⟨#[]⟩), 1, 16) := by kernel_rfl
/-- Bytes as a text's value. -/
def bsV (l : List UInt8) : Value := .string ⟨l.toArray⟩
/-- The row of labels when k are told. -/
def lbC (names : List Int) (n k : Nat) : List Value := (lbL names k).map bsV ++ List.replicate (n - k) (.string ⟨#[]⟩)
theorem lbC_len {names : List Int} {n k : Nat} (h : k ≤ n) : (lbC names n k).length = n := by unfold lbC; simp [lbL_len]; omega
theorem lbC_set {names : List Int} {n k : Nat} (h : k < n) : (lbC names n k).set k (bsV (lbV names (k : Int)).1) = lbC names n (k + 1) := by
  unfold lbC
  rw [lbL_succ, List.set_append_right _ _ (by simp [lbL_len]), List.length_map, lbL_len, Nat.sub_self, show n - k = (n - (k + 1)) + 1 by omega, List.replicate_succ, List.set_cons_zero]
  simp
theorem Bk.set {w : World} {k : Nat} {cs : List Value} {t : TypeId} (h : Bk w k cs t) (i : Nat) (v : Value) : Bk (w.setCell ⟨k, i, none⟩ v) k (cs.set i v) t := by
  obtain ⟨hlt, hk⟩ := Array.getElem?_eq_some_iff.1 h
  show (w.heap.modify k _)[k]? = _
  rw [Array.getElem?_eq_getElem (by rw [Array.size_modify]; exact hlt), Array.getElem_modify_self, hk]
  simp
theorem Bk.frozen {w : World} {k : Nat} {cs : List Value} {t : TypeId} (h : Bk w k cs t) (i : Nat) : w.frozen? ⟨k, i, none⟩ = false := by
  simp [World.frozen?, show w.heap[k]? = _ from h]

set_option maxRecDepth 100000 in
set_option maxHeartbeats 4000000 in
theorem allLabels_any (a : Option Addr) (c : Nat) (names : List Int) (w : World) (hr : RdL .i32 w a names) (h0 : 1 ≤ names.length) (h1 : names.length ≤ 64) :
    Calls Tryd.prog 17 #[.slice a names.length c] w fun e w' => Below w.heap.size w w' ∧
      ((lbE names names.length ≠ 0 ∧ e = .returned (.tuple #[.slice none 0 0, .int .i64 (lbE names names.length)])) ∨
       (lbE names names.length = 0 ∧ ∃ b, e = .returned (.tuple #[.slice (some ⟨b, 0, none⟩) names.length names.length, .int .i64 0]) ∧ Bk w' b ((lbL names names.length).map bsV) 9)) := by
  have hmk := run_make_row' (P := Tryd.prog) 47 9 (.string ⟨#[]⟩) 16 Tryd.underlying47 infoStr rfl .i64 .i64 names.length (by omega) (by omega) w
  have hb0 : Bk (w.alloc (.cells (madeCells #[.string ⟨#[]⟩] names.length) 9)) w.heap.size (lbC names names.length 0) 9 := by
    have := World.alloc_heap_new w (.cells (madeCells #[.string ⟨#[]⟩] names.length) 9)
    unfold Bk
    rw [this]
    congr 2
    apply Array.toList_inj.1
    rw [toList_madeCells_one]
    simp [lbC, lbL]
  have ba := ballo w (.cells (madeCells #[.string ⟨#[]⟩] names.length) 9)
  obtain ⟨W0, hW0⟩ : ∃ W0, w.alloc (.cells (madeCells #[.string ⟨#[]⟩] names.length) 9) = W0 := ⟨_, rfl⟩
  rw [hW0] at hmk hb0 ba
  clear hW0
  have HR := hide hr
  clear hr
  go_enter Tryd.func17, Tryd.ntmps17
  go_wp2
  go_loopw [13] (fun i wr => ∃ k : Nat, k ≤ names.length ∧ i = .int .i64 k ∧ Hid (lbE names k = 0) ∧ Bk wr w.heap.size (lbC names names.length k) 9 ∧ Below w.heap.size w wr) (fun i _ => names.length - (intOf i).toNat)
  case atStart => exact ⟨0, Nat.zero_le _, rfl, rfl, hb0, ba⟩
  case round =>
    obtain ⟨k, hk, rfl, hz, hbk, hbl⟩ := hrel
    by_cases hlt : k < names.length
    · have hL := dlabel_any a c names (k : Int) wr ((unhide HR).below hbl)
      have HG := hide (lbE_go (unhide hz))
      by_cases he : (lbV names (k : Int)).2 = 0
      · have HS := hide (lbC_set (names := names) hlt)
        rw [he] at hL
        have HG2 := hide ((unhide HG).trans he)
        generalize hbl' : (lbV names (k : Int)).1 = lb at *
        clear HG
        go_wp2_with fail
        refine hL.mono ?_
        rintro e w1 ⟨rfl, hb1⟩
        have hc1 := (hbk.below hb1).cell k
        have hf1 := (hbk.below hb1).frozen k
        rw [List.getElem?_eq_getElem (by rw [lbC_len hk]; exact hlt)] at hc1
        have HB := hide ((hbk.below hb1).set k (bsV lb))
        have hB2 : Below w.heap.size w w1 := bstep hbl hb1
        go_wp2
        go_roundw
        case rel =>
          refine ⟨k + 1, hlt, by simp, unhide HG2, ?_, hB2.setCell (Nat.le_refl _) _⟩
          have := unhide HB
          rw [unhide HS] at this
          exact this
        case measure => simp [intOf]; omega
      · have t1 : ((lbV names (k : Int)).2 != 0) = true := by simpa using he
        have H2 := hide (show lbE names names.length = (lbV names (k : Int)).2 from (lbE_up (k := k + 1) (by rw [unhide HG]; exact he) _ hlt).trans (unhide HG))
        have he' := hide he
        clear HG he
        generalize (lbV names (k : Int)).2 = er at *
        go_wp2_with fail
        refine hL.mono ?_
        rintro e w1 ⟨rfl, hb1⟩
        go_wp2
        go_ret2
        refine ⟨bstep hbl hb1, .inl ⟨?_, ?_⟩⟩
        · rw [unhide H2]; exact unhide he'
        · rw [unhide H2]; rfl
    · obtain rfl : k = names.length := by omega
      go_wp2
      go_ret2
      refine ⟨hbl, .inr ⟨unhide hz, _, rfl, ?_⟩⟩
      have := hbk
      unfold lbC at this
      rw [Nat.sub_self, List.replicate_zero, List.append_nil] at this
      exact this

end Go.Proofs.YtbhdcgebcmgidaaDoor

/-
  The writer's functions that are handed on one another: a state's shape, what stands at a way.
-/
namespace Go.Proofs.YtbhdcgebcmgidaaDoor
open Go.RowKit

/-- A machine's six cells. -/
def mC (m : Mc) (a1 : Option Addr) (c1 : Nat) (a2 : Option Addr) (c2 : Nat) : List Value := [.int .i64 m.kind, .int .i64 m.k, .int .i64 m.o, .int .i64 m.n, .slice a1 m.nx.length c1, .slice a2 m.out.length c2]
abbrev ptr (b : Nat) : Value := .pointer (some ⟨b, 0, none⟩)

/-- A function's value tells these texts of the numbers below n, in every world that keeps this one's memory. -/
def TellsF (W0 : World) (v : Value) (n : Nat) (g : Nat → List UInt8) : Prop :=
  ∃ f lb, v = .func (.func f) #[] lb ∧ (∀ args w, (callFunc f args).run Tryd.prog w = .ok (.enter f args) w) ∧
    ∀ W, Below W0.heap.size W0 W → ∀ i : Nat, i < n → Calls Tryd.prog f (#[.int .i64 (i : Int)] ++ lb) W fun e W' => e = .returned (bsV (g i)) ∧ Below W.heap.size W W'
theorem TellsF.below {W0 W1 : World} {v : Value} {n : Nat} {g : Nat → List UInt8} (h : TellsF W0 v n g) (hb : Below W0.heap.size W0 W1) : TellsF W1 v n g := by
  obtain ⟨f, lb, e, he, h⟩ := h
  exact ⟨f, lb, e, he, fun W hW => h W (bstep hb hW)⟩

theorem bsV_app (x y : List UInt8) : bsV (x ++ y) = .string ((⟨x.toArray⟩ : ByteArray) ++ ⟨y.toArray⟩) := by unfold bsV; rw [ba_app]

def sCirc : List UInt8 := [99, 105, 114, 99, 108, 101]
def sDbl : List UInt8 := [100, 111, 117, 98, 108, 101]

theorem plain_tells (W0 : World) (n : Nat) : TellsF W0 (.func (.func 28) #[] #[]) n (fun _ => sCirc) := by
  refine ⟨_, _, rfl, enters_of Tryd.func28 (by kernel_rfl) rfl, fun W hW i hi => ?_⟩
  show Calls Tryd.prog 28 #[.int .i64 (i : Int)] W _
  go_enter Tryd.func28, Tryd.ntmps28
  go_wp2
  go_ret
  exact ⟨rfl, Below.refl _ _⟩

theorem byName_any (m : Mc) (a1 : Option Addr) (c1 : Nat) (a2 : Option Addr) (c2 : Nat) (la : Option Addr) (n lc : Nat) (w : World) :
    Calls Tryd.prog 29 #[mval m a1 c1 a2 c2, .slice la n lc] w fun e w' => e = .returned (.func (.func 41) #[] #[ptr (w.heap.size + 1), ptr w.heap.size]) ∧ w' = (w.alloc (.cells (mC m a1 c1 a2 c2).toArray 24)).alloc (.cells #[.slice la n lc] 47) := by
  unfold mval
  go_enter Tryd.func29, Tryd.ntmps29
  go_wp2
  go_ret
  exact ⟨rfl, rfl⟩
theorem byOut_any (m : Mc) (a1 : Option Addr) (c1 : Nat) (a2 : Option Addr) (c2 : Nat) (f : Nat) (lb : Array Value) (w : World) :
    Calls Tryd.prog 30 #[mval m a1 c1 a2 c2, .func (.func f) #[] lb] w fun e w' => e = .returned (.func (.func 42) #[] #[ptr w.heap.size, ptr (w.heap.size + 1)]) ∧ w' = (w.alloc (.cells (mC m a1 c1 a2 c2).toArray 24)).alloc (.cells #[.func (.func f) #[] lb] 50) := by
  unfold mval
  go_enter Tryd.func30, Tryd.ntmps30
  go_wp2
  go_ret
  exact ⟨rfl, rfl⟩
theorem withSaid_any (m : Mc) (a1 : Option Addr) (c1 : Nat) (a2 : Option Addr) (c2 : Nat) (f : Nat) (lb : Array Value) (w : World) :
    Calls Tryd.prog 31 #[mval m a1 c1 a2 c2, .func (.func f) #[] lb] w fun e w' => e = .returned (.func (.func 43) #[] #[ptr (w.heap.size + 1), ptr w.heap.size]) ∧ w' = (w.alloc (.cells (mC m a1 c1 a2 c2).toArray 24)).alloc (.cells #[.func (.func f) #[] lb] 50) := by
  unfold mval
  go_enter Tryd.func31, Tryd.ntmps31
  go_wp2
  go_ret
  exact ⟨rfl, rfl⟩

set_option maxRecDepth 100000 in
set_option maxHeartbeats 2000000 in
theorem name_tells (W0 : World) (m : Mc) (a1 : Option Addr) (c1 : Nat) (a2 : Option Addr) (c2 b1 b2 p K : Nat) (ls : List (List UInt8)) (n : Nat) (h1 : Bk W0 b1 (mC m a1 c1 a2 c2) 24) (h2 : Bk W0 b2 [.slice (some ⟨p, 0, none⟩) K K] 47) (hp : Bk W0 p (ls.map bsV) 9) (hk : m.k = (K : Int)) (hl : ls.length = K) (hK : 1 ≤ K) (hK2 : K ≤ 64) :
    TellsF W0 (.func (.func 41) #[] #[ptr b2, ptr b1]) n (fun i => ls.getD (i % K) []) := by
  refine ⟨_, _, rfl, enters_of Tryd.func41 (by kernel_rfl) rfl, fun W hW i hi => ?_⟩
  show Calls Tryd.prog 41 #[.int .i64 (i : Int), ptr b2, ptr b1] W fun e W' => e = .returned (bsV (ls.getD (i % K) [])) ∧ Below W.heap.size W W'
  have q1 := (h1.below hW).cell 1
  have q2 := (h2.below hW).cell 0
  have hmod : i % K < K := Nat.mod_lt _ (by omega)
  have q3 := (hp.below hW).cell (i % K)
  rw [List.getElem?_map, List.getElem?_eq_getElem (by omega)] at q3
  simp only [mC, List.getElem?_cons_succ, List.getElem?_cons_zero, Option.map_some] at q1 q2 q3
  rw [hk] at q1
  have e0 : ls.getD (i % K) [] = ls[i % K] := by simp [List.getD_eq_getElem?_getD, List.getElem?_eq_getElem (show i % K < ls.length by omega)]
  rw [e0]
  have hz : ((K : Int) == 0) = false := by simp; omega
  generalize ls[i % K] = x at *
  unfold bsV at q3
  have H0 := hide h1
  clear h1 h2 hp e0
  go_enter Tryd.func41, Tryd.ntmps41
  go_wp2
  go_region
  go_wp2
  go_ret
  exact ⟨rfl, (Below.refl _ _).drew⟩

set_option maxRecDepth 100000 in
set_option maxHeartbeats 2000000 in
theorem out_tells (W0 : World) (m : Mc) (a1 : Option Addr) (c1 : Nat) (a2 : Option Addr) (c2 b1 b2 : Nat) (f : Nat) (lb : Array Value) (n : Nat) (g : Nat → List UInt8) (h1 : Bk W0 b1 (mC m a1 c1 a2 c2) 24) (h2 : Bk W0 b2 [.func (.func f) #[] lb] 50) (ht : TellsF W0 (.func (.func f) #[] lb) n g) (ho : RdL .i64 W0 a2 m.out) (hn : n ≤ m.out.length) (hg : ∀ i, (g i).length ≤ 1000) :
    TellsF W0 (.func (.func 42) #[] #[ptr b1, ptr b2]) n (fun i => if m.out.getD i 0 = 1 then sDbl ++ g i else g i) := by
  refine ⟨_, _, rfl, enters_of Tryd.func42 (by kernel_rfl) rfl, fun W hW i hi => ?_⟩
  show Calls Tryd.prog 42 #[.int .i64 (i : Int), ptr b1, ptr b2] W fun e W' => e = .returned (bsV (if m.out.getD i 0 = 1 then sDbl ++ g i else g i)) ∧ Below W.heap.size W W'
  obtain ⟨f', lb', e, hen, ht⟩ := ht
  obtain ⟨rfl, rfl⟩ : f = f' ∧ lb = lb' := by
    injection e with e1 _ e3; injection e1 with e1; exact ⟨e1, e3⟩
  have hT := ht W hW i hi
  have hgl := hg i
  have q1 := (h1.below hW).cell 5
  have q2 := (h2.below hW).cell 0
  simp only [mC, List.getElem?_cons_succ, List.getElem?_cons_zero] at q1 q2
  obtain ⟨b, off, rfl, hcs⟩ := (ho.below hW).at (show i < m.out.length by omega)
  have q3 := hcs i (by omega)
  clear hcs e ht h1 h2 ho
  have hil : (i : Int) < (m.out.length : Int) := by omega
  generalize m.out.getD i 0 = y at *
  by_cases hy : y = 1
  · subst hy
    rw [if_pos rfl]
    go_enter Tryd.func42, Tryd.ntmps42
    go_wp2_with fail
    refine hT.mono ?_
    rintro e w1 ⟨rfl, hb1⟩
    unfold bsV
    go_wp2
    go_ret
    refine ⟨?_, hb1⟩
    rw [bsV_app]; rfl
  · rw [if_neg hy]
    have t1 : (y == 1) = false := by simpa using hy
    clear hy
    go_enter Tryd.func42, Tryd.ntmps42
    go_wp2_with fail
    refine hT.mono ?_
    rintro e w1 ⟨rfl, hb1⟩
    go_wp2
    go_ret
    exact ⟨rfl, hb1⟩

end Go.Proofs.YtbhdcgebcmgidaaDoor

/-
  What is told with the output behind it; a state's line; a way's line: statements whose order is open.
-/
namespace Go.Proofs.YtbhdcgebcmgidaaDoor
open Go.RowKit

/-- Each operation yields one value. -/
abbrev TV (vs : List Value) (i : Nat) (v : Value) (_ : World) : Prop := v = vs.getD i undef
theorem strAdd {x y : List UInt8} (h : x.length + y.length ≤ 1000000) (w : World) : (Op.stringOp .add ⟨x.toArray⟩ ⟨y.toArray⟩).run Tryd.prog w = .ok (bsV (x ++ y)) w := by
  unfold Op.stringOp
  have h1 : ¬ (((⟨x.toArray⟩ : ByteArray).size + (⟨y.toArray⟩ : ByteArray).size : Nat) : Int) > IntKind.i64.max := by
    have e1 : (⟨x.toArray⟩ : ByteArray).size = x.length := by simp [ByteArray.size]
    have e2 : (⟨y.toArray⟩ : ByteArray).size = y.length := by simp [ByteArray.size]
    rw [e1, e2, show IntKind.i64.max = 9223372036854775807 by rfl]
    omega
  simp only [if_neg h1]
  rw [bsV_app]; rfl
theorem loadF {w : World} {b k : Nat} {v : Value} (h : w.cell? ⟨b, k, none⟩ = some v) : (Instr.loadAt 50 (.pointer (some ⟨b, k, none⟩))).run Tryd.prog w = .ok v w := by
  go_simp
theorem loadI {w : World} {b k : Nat} {v : Value} (h : w.cell? ⟨b, k, none⟩ = some v) : (Instr.loadAt 3 (.pointer (some ⟨b, k, none⟩))).run Tryd.prog w = .ok v w := by
  go_simp
theorem loadS {w : World} {b k : Nat} {v : Value} (h : w.cell? ⟨b, k, none⟩ = some v) : (Instr.loadAt 22 (.pointer (some ⟨b, k, none⟩))).run Tryd.prog w = .ok v w := by
  go_simp
theorem idxI {w : World} {b off i L c : Nat} (h : i < L) : (Instr.indexAt 22 (.slice (some ⟨b, off, none⟩) L c) (.int .i64 (i : Int))).run Tryd.prog w = .ok (.pointer (some ⟨b, off + i, none⟩)) w := by
  have h1 : (i : Int) < (L : Int) := by omega
  go_simp
theorem fldM {w : World} {b k j : Nat} (hj : j < 6) : (Instr.fieldAt 24 (.pointer (some ⟨b, k, none⟩)) j).run Tryd.prog w = .ok (.pointer (some ⟨b, k + j, none⟩)) w := by
  rcases (by omega : j = 0 ∨ j = 1 ∨ j = 2 ∨ j = 3 ∨ j = 4 ∨ j = 5) with rfl | rfl | rfl | rfl | rfl | rfl <;> go_simp
/-- The sum of two texts, as one operation. -/
theorem run_add {a : Act} {o : Oper} {x y : Operand} {X Y : List UInt8} {w : World} (ho : o.op = .binOp .add 9 x y 9) (hx : a.eval x = bsV X) (hy : a.eval y = bsV Y) (h : X.length + Y.length ≤ 1000000) : (execOp a.eval o).run Tryd.prog w = .ok (.value (bsV (X ++ Y))) w := by
  have := strAdd h w
  have h2 : (binOp .add 9 (bsV X) (bsV Y)).run Tryd.prog w = .ok (bsV (X ++ Y)) w := this
  simp only [execOp, ho, hx, hy, eqGuard]
  simp [h2, Result.andThen]

/-- The operations write these slots, no guard; each waits for earlier ones alone. -/
def okB (ops : Array Oper) (ds : List Nat) : Bool := (List.range ops.size).all fun i => match ops[i]? with
  | some o => decide (o.dst = some (ds.getD i 0)) && o.guard.isNone && o.after.all fun e => !(Region.binds .any e) || decide (e.on < i)
  | none => true
theorem hd_of {ops : Array Oper} {ds : List Nat} (h : okB ops ds = true) : ∀ i o, ops[i]? = some o → o.dst = some (ds.getD i 0) ∧ o.guard = none ∧ ∀ e ∈ o.after, Region.binds .any e = true → e.on < i := fun i o ho => by
  have hi : i < ops.size := (Array.getElem?_eq_some_iff.1 ho).1
  have h1 := List.all_eq_true.1 h i (List.mem_range.2 hi)
  rw [ho] at h1
  simp only [Bool.and_eq_true, decide_eq_true_eq, Option.isNone_iff_eq_none] at h1
  refine ⟨h1.1.1, h1.1.2, fun e he hb => ?_⟩
  have h2 := Array.all_eq_true_iff_forall_mem.1 h1.2 e he
  rw [hb] at h2
  simpa using h2

def ws0 : Oper := { dst := some 5, op := Op.load 50 (Operand.tmp 1), type := 50, pos := "write.go:50", after := #[], guard := none }
def ws1 : Oper := { dst := some 6, op := Op.move (Operand.tmp 0), type := 3, pos := "write.go:50", after := #[], guard := none }
def ws2 : Oper := { dst := some 7, op := Op.call { callee := Callee.value (Operand.tmp 5), args := #[Operand.tmp 6], argTypes := #[3] }, type := 9, pos := "write.go:50", after := #[{ on := 0, ground := Ground.data }, { on := 1, ground := Ground.data }], guard := none }
def ws3 : Oper := { dst := some 8, op := Op.binOp BinOp.add 9 (Operand.tmp 7) (Operand.const (Value.string { data := #[47] })) 9, type := 9, pos := "write.go:50", after := #[{ on := 2, ground := Ground.data }], guard := none }
def ws4 : Oper := { dst := some 9, op := Op.fieldAddr 24 (Operand.tmp 2) 5, type := 0, pos := "write.go:50", after := #[], guard := none }
def ws5 : Oper := { dst := some 10, op := Op.load 22 (Operand.tmp 9), type := 22, pos := "write.go:50", after := #[{ on := 4, ground := Ground.data }], guard := none }
def ws6 : Oper := { dst := some 11, op := Op.move (Operand.tmp 0), type := 3, pos := "write.go:50", after := #[], guard := none }
def ws7 : Oper := { dst := some 12, op := Op.indexAddr 22 (Operand.tmp 10) (Operand.tmp 11), type := 0, pos := "write.go:50", after := #[{ on := 5, ground := Ground.data }, { on := 6, ground := Ground.data }], guard := none }
def ws8 : Oper := { dst := some 13, op := Op.load 3 (Operand.tmp 12), type := 3, pos := "write.go:50", after := #[{ on := 7, ground := Ground.data }], guard := none }
def ws9 : Oper := { dst := some 14, op := Op.call { callee := Callee.value (Operand.func 44), args := #[Operand.tmp 13], argTypes := #[3] }, type := 9, pos := "write.go:50", after := #[{ on := 8, ground := Ground.data }, { on := 2, ground := Ground.chain }], guard := none }
def ws10 : Oper := { dst := some 15, op := Op.binOp BinOp.add 9 (Operand.tmp 8) (Operand.tmp 14) 9, type := 9, pos := "write.go:50", after := #[{ on := 3, ground := Ground.data }, { on := 9, ground := Ground.data }], guard := none }
def ws11 : Oper := { dst := some 4, op := Op.assign (Operand.tmp 15), type := 9, pos := "write.go:50", after := #[{ on := 10, ground := Ground.data }, { on := 9, ground := Ground.chain }, { on := 0, ground := Ground.phase }, { on := 1, ground := Ground.phase }, { on := 2, ground := Ground.phase }, { on := 3, ground := Ground.phase }, { on := 4, ground := Ground.phase }, { on := 5, ground := Ground.phase }, { on := 6, ground := Ground.phase }, { on := 7, ground := Ground.phase }, { on := 8, ground := Ground.phase }, { on := 9, ground := Ground.phase }, { on := 10, ground := Ground.phase }], guard := none }
def wsOps : Array Oper := #[ws0, ws1, ws2, ws3, ws4, ws5, ws6, ws7, ws8, ws9, ws10, ws11]


set_option maxRecDepth 100000 in
set_option maxHeartbeats 1000000 in
theorem ws_ok : okB wsOps [5, 6, 7, 8, 9, 10, 11, 12, 13, 14, 15, 4] = true := by kernel_rfl
set_option maxRecDepth 100000 in
set_option maxHeartbeats 1000000 in
theorem ws_region {Q : Exit → Act → World → Prop} (a0 : Act) (W : World) (i b1 b2 b off L c2 f : Nat) (lb : Array Value) (y : Int) (g t : List UInt8) (h16 : a0.tmps.size = 16)
    (e0 : a0.eval (.tmp 0) = .int .i64 (i : Int)) (e1 : a0.eval (.tmp 1) = .pointer (some ⟨b1, 0, none⟩)) (e2 : a0.eval (.tmp 2) = .pointer (some ⟨b2, 0, none⟩))
    (q1 : W.cell? ⟨b1, 0, none⟩ = some (.func (.func f) #[] lb)) (q2 : W.cell? ⟨b2, 5, none⟩ = some (.slice (some ⟨b, off, none⟩) L c2)) (q3 : W.cell? ⟨b, off + i, none⟩ = some (.int .i64 y)) (hi : i < L)
    (hen : ∀ args w, (callFunc f args).run Tryd.prog w = .ok (.enter f args) w) (hT : ∀ X, Below W.heap.size W X → Calls Tryd.prog f (#[.int .i64 (i : Int)] ++ lb) X fun e X' => e = .returned (bsV g) ∧ Below X.heap.size X X')
    (hN : ∀ X, Below W.heap.size W X → Calls Tryd.prog 44 #[.int .i64 y] X fun e X' => e = .returned (bsV t) ∧ Below X.heap.size X X') (hg : g.length ≤ 1000) (ht : t.length ≤ 1000)
    (fin : ∀ a X, Below W.heap.size W X → a.defers = a0.defers → a.eval (.tmp 4) = bsV (g ++ [47] ++ t) → Q .normal a X) : (Code.region 1 wsOps true).wp Tryd.prog Q a0 W := by
  refine wp_region_vals (by kernel_rfl) a0 W 12 (fun i => [5, 6, 7, 8, 9, 10, 11, 12, 13, 14, 15, 4].getD i 0) (TV [.func (.func f) #[] lb, .int .i64 (i : Int), bsV g, bsV (g ++ [47]), .pointer (some ⟨b2, 5, none⟩), .slice (some ⟨b, off, none⟩) L c2, .int .i64 (i : Int), .pointer (some ⟨b, off + i, none⟩), .int .i64 y, bsV t, bsV (g ++ [47] ++ t), bsV (g ++ [47] ++ t)]) rfl (fun _ _ _ _ h _ => h) (by decide) (by rw [h16]; decide) ?_ ?_ ?_
  · exact hd_of ws_ok
  · intro j o ho a X E haft KK hKK
    have hj : j < 12 := (Array.getElem?_eq_some_iff.1 ho).1
    replace e0 : a.eval (.tmp 0) = .int .i64 (i : Int) := (E.ag 0 (by decide)).trans e0
    replace e1 : a.eval (.tmp 1) = .pointer (some ⟨b1, 0, none⟩) := (E.ag 1 (by decide)).trans e1
    replace e2 : a.eval (.tmp 2) = .pointer (some ⟨b2, 0, none⟩) := (E.ag 2 (by decide)).trans e2
    have r := Below.refl X.heap.size X
    have bl := E.bl
    clear E
    rcases (by omega : j = 0 ∨ j = 1 ∨ j = 2 ∨ j = 3 ∨ j = 4 ∨ j = 5 ∨ j = 6 ∨ j = 7 ∨ j = 8 ∨ j = 9 ∨ j = 10 ∨ j = 11) with rfl | rfl | rfl | rfl | rfl | rfl | rfl | rfl | rfl | rfl | rfl | rfl
    · obtain rfl : ws0 = o := Option.some.inj ho
      have q := (bl.cell (p := ⟨b1, 0, none⟩) (World.block_lt_of_cell? W _ q1)).trans q1
      exact wp_valueZ (v := .func (.func f) #[] lb) (w' := X) (by simp [execOp, ws0, e1, loadF q]) (hKK _ _ r rfl)
    · obtain rfl : ws1 = o := Option.some.inj ho
      exact wp_valueZ (v := .int .i64 (i : Int)) (w' := X) (by simp [execOp, ws1, e0]) (hKK _ _ r rfl)
    · obtain rfl : ws2 = o := Option.some.inj ho
      have d0 : a.eval (.tmp 5) = .func (.func f) #[] lb := haft ⟨0, .data⟩ (by simp [ws2]) rfl
      have d1 : a.eval (.tmp 6) = .int .i64 (i : Int) := haft ⟨1, .data⟩ (by simp [ws2]) rfl
      have hc := hT X bl
      refine wp_enterZ (run_callv rfl d0 hen d1) hc ?_
      rintro e X' ⟨rfl, hb⟩
      exact ⟨_, rfl, hKK _ _ hb rfl⟩
    · obtain rfl : ws3 = o := Option.some.inj ho
      have d0 : a.eval (.tmp 7) = bsV g := haft ⟨2, .data⟩ (by simp [ws3]) rfl
      exact wp_valueZ (w' := X) (run_add rfl d0 (Y := [47]) rfl (by simp; omega)) (hKK _ _ r rfl)
    · obtain rfl : ws4 = o := Option.some.inj ho
      exact wp_valueZ (v := .pointer (some ⟨b2, 5, none⟩)) (w' := X) (by simp [execOp, ws4, e2, fldM]) (hKK _ _ r rfl)
    · obtain rfl : ws5 = o := Option.some.inj ho
      have d0 : a.eval (.tmp 9) = .pointer (some ⟨b2, 5, none⟩) := haft ⟨4, .data⟩ (by simp [ws5]) rfl
      have q := (bl.cell (p := ⟨b2, 5, none⟩) (World.block_lt_of_cell? W _ q2)).trans q2
      exact wp_valueZ (v := .slice (some ⟨b, off, none⟩) L c2) (w' := X) (by simp [execOp, ws5, d0, loadS q]) (hKK _ _ r rfl)
    · obtain rfl : ws6 = o := Option.some.inj ho
      exact wp_valueZ (v := .int .i64 (i : Int)) (w' := X) (by simp [execOp, ws6, e0]) (hKK _ _ r rfl)
    · obtain rfl : ws7 = o := Option.some.inj ho
      have d0 : a.eval (.tmp 10) = .slice (some ⟨b, off, none⟩) L c2 := haft ⟨5, .data⟩ (by simp [ws7]) rfl
      have d1 : a.eval (.tmp 11) = .int .i64 (i : Int) := haft ⟨6, .data⟩ (by simp [ws7]) rfl
      exact wp_valueZ (v := .pointer (some ⟨b, off + i, none⟩)) (w' := X) (by simp [execOp, ws7, d0, d1, idxI hi]) (hKK _ _ r rfl)
    · obtain rfl : ws8 = o := Option.some.inj ho
      have d0 : a.eval (.tmp 12) = .pointer (some ⟨b, off + i, none⟩) := haft ⟨7, .data⟩ (by simp [ws8]) rfl
      have q := (bl.cell (p := ⟨b, off + i, none⟩) (World.block_lt_of_cell? W _ q3)).trans q3
      exact wp_valueZ (v := .int .i64 y) (w' := X) (by simp [execOp, ws8, d0, loadI q]) (hKK _ _ r rfl)
    · obtain rfl : ws9 = o := Option.some.inj ho
      have d0 : a.eval (.tmp 13) = .int .i64 y := haft ⟨8, .data⟩ (by simp [ws9]) rfl
      have hc := hN X bl
      refine wp_enterZ (run_call1 rfl (enters_of Tryd.func44 (by kernel_rfl) rfl) d0) hc ?_
      rintro e X' ⟨rfl, hb⟩
      exact ⟨_, rfl, hKK _ _ hb rfl⟩
    · obtain rfl : ws10 = o := Option.some.inj ho
      have d0 : a.eval (.tmp 8) = bsV (g ++ [47]) := haft ⟨3, .data⟩ (by simp [ws10]) rfl
      have d1 : a.eval (.tmp 14) = bsV t := haft ⟨9, .data⟩ (by simp [ws10]) rfl
      exact wp_valueZ (w' := X) (run_add rfl d0 d1 (by simp; omega)) (hKK _ _ r rfl)
    · obtain rfl : ws11 = o := Option.some.inj ho
      have d0 : a.eval (.tmp 15) = bsV (g ++ [47] ++ t) := haft ⟨10, .data⟩ (by simp [ws11]) rfl
      exact wp_valueZ (v := bsV (g ++ [47] ++ t)) (w' := X) (by simp [execOp, ws11, d0]) (hKK _ _ r rfl)
  · intro a X E
    exact fin a X E.bl E.df (E.vs 11 (by decide) trivial)

end Go.Proofs.YtbhdcgebcmgidaaDoor

/-
  A state's line and a way's line.
-/
namespace Go.Proofs.YtbhdcgebcmgidaaDoor
open Go.RowKit

theorem fldW {w : World} {b : Nat} : (Instr.fieldAt 52 (.pointer (some ⟨b, 0, none⟩)) 0).run Tryd.prog w = .ok (.pointer (some ⟨b, 0, none⟩)) w ∧ (Instr.fieldAt 52 (.pointer (some ⟨b, 0, none⟩)) 1).run Tryd.prog w = .ok (.pointer (some ⟨b, 6, none⟩)) w ∧ (Instr.fieldAt 52 (.pointer (some ⟨b, 0, none⟩)) 2).run Tryd.prog w = .ok (.pointer (some ⟨b, 7, none⟩)) w := by
  refine ⟨?_, ?_, ?_⟩ <;> go_simp
theorem run_quo {a : Act} {o : Oper} {x y : Operand} {X K : Nat} {w : World} (ho : o.op = .binOp .quo 3 x y 3) (hx : a.eval x = .int .i64 (X : Int)) (hy : a.eval y = .int .i64 (K : Int)) (hK : 1 ≤ K) (hX : X ≤ 1000000) : (execOp a.eval o).run Tryd.prog w = .ok (.value (.int .i64 ((X / K : Nat) : Int))) w := by
  have h2 : X / K ≤ X := Nat.div_le_self _ _
  have h3 : (binOp .quo 3 (.int .i64 (X : Int)) (.int .i64 (K : Int))).run Tryd.prog w = .ok (.int .i64 ((X / K : Nat) : Int)) w := by
    go_simp
    have h4 : (X : Int) / (K : Int) = ((X / K : Nat) : Int) := rfl
    rw [if_neg (by omega), h4]
    generalize X / K = d at h2 ⊢
    rw [IntWalk.i64_in _ (by omega)]
  simp only [execOp, ho, hx, hy, eqGuard]
  simp [h3, Result.andThen]
theorem fitN {k : Nat} (h : k ≤ 1000000) : FitP (k : Int) := ⟨by omega, by omega⟩
def sShp : List UInt8 := [32, 91, 115, 104, 97, 112, 101, 61]

def sl0 : Oper := { dst := some 5, op := Op.move (Operand.tmp 1), type := 3, pos := "write.go:74", after := #[], guard := none }
def sl1 : Oper := { dst := some 6, op := Op.call { callee := Callee.value (Operand.func 44), args := #[Operand.tmp 5], argTypes := #[3] }, type := 9, pos := "write.go:74", after := #[{ on := 0, ground := Ground.data }], guard := none }
def sl2 : Oper := { dst := some 7, op := Op.binOp BinOp.add 9 (Operand.const (Value.string { data := #[32, 32] })) (Operand.tmp 6) 9, type := 9, pos := "write.go:74", after := #[{ on := 1, ground := Ground.data }], guard := none }
def sl3 : Oper := { dst := some 8, op := Op.binOp BinOp.add 9 (Operand.tmp 7) (Operand.const (Value.string { data := #[32, 91, 115, 104, 97, 112, 101, 61] })) 9, type := 9, pos := "write.go:74", after := #[{ on := 2, ground := Ground.data }], guard := none }
def sl4 : Oper := { dst := some 9, op := Op.fieldAddr 52 (Operand.tmp 2) 1, type := 0, pos := "write.go:74", after := #[], guard := none }
def sl5 : Oper := { dst := some 10, op := Op.load 50 (Operand.tmp 9), type := 50, pos := "write.go:74", after := #[{ on := 4, ground := Ground.data }], guard := none }
def sl6 : Oper := { dst := some 11, op := Op.move (Operand.tmp 1), type := 3, pos := "write.go:74", after := #[], guard := none }
def sl7 : Oper := { dst := some 12, op := Op.call { callee := Callee.value (Operand.tmp 10), args := #[Operand.tmp 11], argTypes := #[3] }, type := 9, pos := "write.go:74", after := #[{ on := 5, ground := Ground.data }, { on := 6, ground := Ground.data }, { on := 1, ground := Ground.chain }], guard := none }
def sl8 : Oper := { dst := some 13, op := Op.binOp BinOp.add 9 (Operand.tmp 8) (Operand.tmp 12) 9, type := 9, pos := "write.go:74", after := #[{ on := 3, ground := Ground.data }, { on := 7, ground := Ground.data }], guard := none }
def sl9 : Oper := { dst := some 14, op := Op.binOp BinOp.add 9 (Operand.tmp 13) (Operand.const (Value.string { data := #[93] })) 9, type := 9, pos := "write.go:74", after := #[{ on := 8, ground := Ground.data }], guard := none }
def sl10 : Oper := { dst := some 4, op := Op.assign (Operand.tmp 14), type := 9, pos := "write.go:74", after := #[{ on := 9, ground := Ground.data }, { on := 7, ground := Ground.chain }, { on := 0, ground := Ground.phase }, { on := 1, ground := Ground.phase }, { on := 2, ground := Ground.phase }, { on := 3, ground := Ground.phase }, { on := 4, ground := Ground.phase }, { on := 5, ground := Ground.phase }, { on := 6, ground := Ground.phase }, { on := 7, ground := Ground.phase }, { on := 8, ground := Ground.phase }, { on := 9, ground := Ground.phase }], guard := none }
def slOps : Array Oper := #[sl0, sl1, sl2, sl3, sl4, sl5, sl6, sl7, sl8, sl9, sl10]

theorem sl_ok : okB slOps [5, 6, 7, 8, 9, 10, 11, 12, 13, 14, 4] = true := by kernel_rfl
set_option maxRecDepth 100000 in
set_option maxHeartbeats 1000000 in
theorem sl_region {Q : Exit → Act → World → Prop} (a0 : Act) (W : World) (s bx f : Nat) (lb : Array Value) (n g : List UInt8) (hsz : a0.tmps.size = 15)
    (e1 : a0.eval (.tmp 1) = .int .i64 (s : Int))
    (e2 : a0.eval (.tmp 2) = .pointer (some ⟨bx, 0, none⟩))
    (q1 : W.cell? ⟨bx, 6, none⟩ = some (.func (.func f) #[] lb)) (hen : ∀ args w, (callFunc f args).run Tryd.prog w = .ok (.enter f args) w) (hT : ∀ X, Below W.heap.size W X → Calls Tryd.prog f (#[.int .i64 (s : Int)] ++ lb) X fun e X' => e = .returned (bsV g) ∧ Below X.heap.size X X')
    (hN : ∀ X, Below W.heap.size W X → Calls Tryd.prog 44 #[.int .i64 (s : Int)] X fun e X' => e = .returned (bsV n) ∧ Below X.heap.size X X') (hg : g.length ≤ 1100) (hn : n.length ≤ 1000)
    (fin : ∀ a X, Below W.heap.size W X → a.defers = a0.defers → a.eval (.tmp 4) = bsV ([32, 32] ++ n ++ sShp ++ g ++ [93]) → Q .normal a X) : (Code.region 1 slOps true).wp Tryd.prog Q a0 W := by
  refine wp_region_vals (by kernel_rfl) a0 W 11 (fun i => [5, 6, 7, 8, 9, 10, 11, 12, 13, 14, 4].getD i 0) (TV [.int .i64 (s : Int), bsV n, bsV ([32, 32] ++ n), bsV ([32, 32] ++ n ++ sShp), .pointer (some ⟨bx, 6, none⟩), .func (.func f) #[] lb, .int .i64 (s : Int), bsV g, bsV ([32, 32] ++ n ++ sShp ++ g), bsV ([32, 32] ++ n ++ sShp ++ g ++ [93]), bsV ([32, 32] ++ n ++ sShp ++ g ++ [93])]) rfl (fun _ _ _ _ h _ => h) (by decide) (by rw [hsz]; decide) (hd_of sl_ok) ?_ ?_
  · intro j o ho a X E haft KK hKK
    have hj : j < 11 := (Array.getElem?_eq_some_iff.1 ho).1
    replace e1 : a.eval (.tmp 1) = .int .i64 (s : Int) := (E.ag 1 (by decide)).trans e1
    replace e2 : a.eval (.tmp 2) = .pointer (some ⟨bx, 0, none⟩) := (E.ag 2 (by decide)).trans e2
    have r := Below.refl X.heap.size X
    have bl := E.bl
    clear E
    rcases (by omega : j = 0 ∨ j = 1 ∨ j = 2 ∨ j = 3 ∨ j = 4 ∨ j = 5 ∨ j = 6 ∨ j = 7 ∨ j = 8 ∨ j = 9 ∨ j = 10) with rfl | rfl | rfl | rfl | rfl | rfl | rfl | rfl | rfl | rfl | rfl
    · obtain rfl : sl0 = o := Option.some.inj ho
      exact wp_valueZ (v := .int .i64 (s : Int)) (w' := X) (by simp [execOp, sl0, e1]) (hKK _ _ r rfl)
    · obtain rfl : sl1 = o := Option.some.inj ho
      have d0 : a.eval (.tmp 5) = .int .i64 (s : Int) := haft ⟨0, .data⟩ (by simp [sl1]) rfl
      have hc := hN X bl
      refine wp_enterZ (run_call1 rfl (enters_of Tryd.func44 (by kernel_rfl) rfl) d0) hc ?_
      rintro e X' ⟨rfl, hb⟩
      exact ⟨_, rfl, hKK _ _ hb rfl⟩
    · obtain rfl : sl2 = o := Option.some.inj ho
      have d0 : a.eval (.tmp 6) = bsV n := haft ⟨1, .data⟩ (by simp [sl2]) rfl
      exact wp_valueZ (w' := X) (run_add rfl (X := [32, 32]) rfl d0 (by simp; omega)) (hKK _ _ r rfl)
    · obtain rfl : sl3 = o := Option.some.inj ho
      have d0 : a.eval (.tmp 7) = bsV ([32, 32] ++ n) := haft ⟨2, .data⟩ (by simp [sl3]) rfl
      exact wp_valueZ (w' := X) (run_add rfl d0 (Y := sShp) rfl (by simp [sShp]; omega)) (hKK _ _ r rfl)
    · obtain rfl : sl4 = o := Option.some.inj ho
      exact wp_valueZ (v := .pointer (some ⟨bx, 6, none⟩)) (w' := X) (by simp [execOp, sl4, e2, fldW.2.1]) (hKK _ _ r rfl)
    · obtain rfl : sl5 = o := Option.some.inj ho
      have d0 : a.eval (.tmp 9) = .pointer (some ⟨bx, 6, none⟩) := haft ⟨4, .data⟩ (by simp [sl5]) rfl
      have q := (bl.cell (p := ⟨bx, 6, none⟩) (World.block_lt_of_cell? W _ q1)).trans q1
      exact wp_valueZ (v := .func (.func f) #[] lb) (w' := X) (by simp [execOp, sl5, d0, loadF q]) (hKK _ _ r rfl)
    · obtain rfl : sl6 = o := Option.some.inj ho
      exact wp_valueZ (v := .int .i64 (s : Int)) (w' := X) (by simp [execOp, sl6, e1]) (hKK _ _ r rfl)
    · obtain rfl : sl7 = o := Option.some.inj ho
      have d0 : a.eval (.tmp 10) = .func (.func f) #[] lb := haft ⟨5, .data⟩ (by simp [sl7]) rfl
      have d1 : a.eval (.tmp 11) = .int .i64 (s : Int) := haft ⟨6, .data⟩ (by simp [sl7]) rfl
      have hc := hT X bl
      refine wp_enterZ (run_callv rfl d0 hen d1) hc ?_
      rintro e X' ⟨rfl, hb⟩
      exact ⟨_, rfl, hKK _ _ hb rfl⟩
    · obtain rfl : sl8 = o := Option.some.inj ho
      have d0 : a.eval (.tmp 8) = bsV ([32, 32] ++ n ++ sShp) := haft ⟨3, .data⟩ (by simp [sl8]) rfl
      have d1 : a.eval (.tmp 12) = bsV g := haft ⟨7, .data⟩ (by simp [sl8]) rfl
      exact wp_valueZ (w' := X) (run_add rfl d0 d1 (by simp [sShp]; omega)) (hKK _ _ r rfl)
    · obtain rfl : sl9 = o := Option.some.inj ho
      have d0 : a.eval (.tmp 13) = bsV ([32, 32] ++ n ++ sShp ++ g) := haft ⟨8, .data⟩ (by simp [sl9]) rfl
      exact wp_valueZ (w' := X) (run_add rfl d0 (Y := [93]) rfl (by simp [sShp]; omega)) (hKK _ _ r rfl)
    · obtain rfl : sl10 = o := Option.some.inj ho
      have d0 : a.eval (.tmp 14) = bsV ([32, 32] ++ n ++ sShp ++ g ++ [93]) := haft ⟨9, .data⟩ (by simp [sl10]) rfl
      exact wp_valueZ (v := bsV ([32, 32] ++ n ++ sShp ++ g ++ [93])) (w' := X) (by simp [execOp, sl10, d0]) (hKK _ _ r rfl)
  · intro a X E
    exact fin a X E.bl E.df (E.vs 10 (by decide) trivial)

def wl0 : Oper := { dst := some 5, op := Op.move (Operand.tmp 1), type := 3, pos := "write.go:78", after := #[], guard := none }
def wl1 : Oper := { dst := some 6, op := Op.fieldAddr 52 (Operand.tmp 2) 0, type := 0, pos := "write.go:78", after := #[], guard := none }
def wl2 : Oper := { dst := some 7, op := Op.fieldAddr 24 (Operand.tmp 6) 1, type := 0, pos := "write.go:78", after := #[{ on := 1, ground := Ground.data }], guard := none }
def wl3 : Oper := { dst := some 8, op := Op.load 3 (Operand.tmp 7), type := 3, pos := "write.go:78", after := #[{ on := 2, ground := Ground.data }], guard := none }
def wl4 : Oper := { dst := some 9, op := Op.binOp BinOp.quo 3 (Operand.tmp 5) (Operand.tmp 8) 3, type := 3, pos := "write.go:78", after := #[{ on := 0, ground := Ground.data }, { on := 3, ground := Ground.data }], guard := none }
def wl5 : Oper := { dst := some 10, op := Op.call { callee := Callee.value (Operand.func 44), args := #[Operand.tmp 9], argTypes := #[3] }, type := 9, pos := "write.go:78", after := #[{ on := 4, ground := Ground.data }], guard := none }
def wl6 : Oper := { dst := some 11, op := Op.binOp BinOp.add 9 (Operand.const (Value.string { data := #[32, 32] })) (Operand.tmp 10) 9, type := 9, pos := "write.go:78", after := #[{ on := 5, ground := Ground.data }], guard := none }
def wl7 : Oper := { dst := some 12, op := Op.binOp BinOp.add 9 (Operand.tmp 11) (Operand.const (Value.string { data := #[32, 45, 62, 32] })) 9, type := 9, pos := "write.go:78", after := #[{ on := 6, ground := Ground.data }], guard := none }
def wl8 : Oper := { dst := some 13, op := Op.fieldAddr 52 (Operand.tmp 2) 0, type := 0, pos := "write.go:78", after := #[], guard := none }
def wl9 : Oper := { dst := some 14, op := Op.fieldAddr 24 (Operand.tmp 13) 4, type := 0, pos := "write.go:78", after := #[{ on := 8, ground := Ground.data }], guard := none }
def wl10 : Oper := { dst := some 15, op := Op.load 22 (Operand.tmp 14), type := 22, pos := "write.go:78", after := #[{ on := 9, ground := Ground.data }], guard := none }
def wl11 : Oper := { dst := some 16, op := Op.move (Operand.tmp 1), type := 3, pos := "write.go:78", after := #[], guard := none }
def wl12 : Oper := { dst := some 17, op := Op.indexAddr 22 (Operand.tmp 15) (Operand.tmp 16), type := 0, pos := "write.go:78", after := #[{ on := 10, ground := Ground.data }, { on := 11, ground := Ground.data }], guard := none }
def wl13 : Oper := { dst := some 18, op := Op.load 3 (Operand.tmp 17), type := 3, pos := "write.go:78", after := #[{ on := 12, ground := Ground.data }], guard := none }
def wl14 : Oper := { dst := some 19, op := Op.call { callee := Callee.value (Operand.func 44), args := #[Operand.tmp 18], argTypes := #[3] }, type := 9, pos := "write.go:78", after := #[{ on := 13, ground := Ground.data }, { on := 5, ground := Ground.chain }], guard := none }
def wl15 : Oper := { dst := some 20, op := Op.binOp BinOp.add 9 (Operand.tmp 12) (Operand.tmp 19) 9, type := 9, pos := "write.go:78", after := #[{ on := 7, ground := Ground.data }, { on := 14, ground := Ground.data }], guard := none }
def wl16 : Oper := { dst := some 21, op := Op.binOp BinOp.add 9 (Operand.tmp 20) (Operand.const (Value.string { data := #[32, 91, 108, 97, 98, 101, 108, 61, 34] })) 9, type := 9, pos := "write.go:78", after := #[{ on := 15, ground := Ground.data }], guard := none }
def wl17 : Oper := { dst := some 22, op := Op.fieldAddr 52 (Operand.tmp 2) 2, type := 0, pos := "write.go:78", after := #[], guard := none }
def wl18 : Oper := { dst := some 23, op := Op.load 50 (Operand.tmp 22), type := 50, pos := "write.go:78", after := #[{ on := 17, ground := Ground.data }], guard := none }
def wl19 : Oper := { dst := some 24, op := Op.move (Operand.tmp 1), type := 3, pos := "write.go:78", after := #[], guard := none }
def wl20 : Oper := { dst := some 25, op := Op.call { callee := Callee.value (Operand.tmp 23), args := #[Operand.tmp 24], argTypes := #[3] }, type := 9, pos := "write.go:78", after := #[{ on := 18, ground := Ground.data }, { on := 19, ground := Ground.data }, { on := 14, ground := Ground.chain }], guard := none }
def wl21 : Oper := { dst := some 26, op := Op.binOp BinOp.add 9 (Operand.tmp 21) (Operand.tmp 25) 9, type := 9, pos := "write.go:78", after := #[{ on := 16, ground := Ground.data }, { on := 20, ground := Ground.data }], guard := none }
def wl22 : Oper := { dst := some 27, op := Op.binOp BinOp.add 9 (Operand.tmp 26) (Operand.const (Value.string { data := #[34, 93] })) 9, type := 9, pos := "write.go:78", after := #[{ on := 21, ground := Ground.data }], guard := none }
def wl23 : Oper := { dst := some 4, op := Op.assign (Operand.tmp 27), type := 9, pos := "write.go:78", after := #[{ on := 22, ground := Ground.data }, { on := 20, ground := Ground.chain }, { on := 0, ground := Ground.phase }, { on := 1, ground := Ground.phase }, { on := 2, ground := Ground.phase }, { on := 3, ground := Ground.phase }, { on := 4, ground := Ground.phase }, { on := 5, ground := Ground.phase }, { on := 6, ground := Ground.phase }, { on := 7, ground := Ground.phase }, { on := 8, ground := Ground.phase }, { on := 9, ground := Ground.phase }, { on := 10, ground := Ground.phase }, { on := 11, ground := Ground.phase }, { on := 12, ground := Ground.phase }, { on := 13, ground := Ground.phase }, { on := 14, ground := Ground.phase }, { on := 15, ground := Ground.phase }, { on := 16, ground := Ground.phase }, { on := 17, ground := Ground.phase }, { on := 18, ground := Ground.phase }, { on := 19, ground := Ground.phase }, { on := 20, ground := Ground.phase }, { on := 21, ground := Ground.phase }, { on := 22, ground := Ground.phase }], guard := none }
def wlOps : Array Oper := #[wl0, wl1, wl2, wl3, wl4, wl5, wl6, wl7, wl8, wl9, wl10, wl11, wl12, wl13, wl14, wl15, wl16, wl17, wl18, wl19, wl20, wl21, wl22, wl23]

theorem wl_ok : okB wlOps [5, 6, 7, 8, 9, 10, 11, 12, 13, 14, 15, 16, 17, 18, 19, 20, 21, 22, 23, 24, 25, 26, 27, 4] = true := by kernel_rfl
set_option maxRecDepth 100000 in
set_option maxHeartbeats 1000000 in
theorem wl_region {Q : Exit → Act → World → Prop} (a0 : Act) (W : World) (y K bx f b off M c : Nat) (z : Int) (lb : Array Value) (n t g : List UInt8) (hsz : a0.tmps.size = 28)
    (e1 : a0.eval (.tmp 1) = .int .i64 (y : Int))
    (e2 : a0.eval (.tmp 2) = .pointer (some ⟨bx, 0, none⟩))
    (q1 : W.cell? ⟨bx, 1, none⟩ = some (.int .i64 (K : Int))) (q2 : W.cell? ⟨bx, 4, none⟩ = some (.slice (some ⟨b, off, none⟩) M c)) (q3 : W.cell? ⟨b, off + y, none⟩ = some (.int .i64 z)) (q4 : W.cell? ⟨bx, 7, none⟩ = some (.func (.func f) #[] lb)) (hK : 1 ≤ K) (hy : y ≤ 1000000) (hM : y < M)
    (hen : ∀ args w, (callFunc f args).run Tryd.prog w = .ok (.enter f args) w) (hT : ∀ X, Below W.heap.size W X → Calls Tryd.prog f (#[.int .i64 (y : Int)] ++ lb) X fun e X' => e = .returned (bsV g) ∧ Below X.heap.size X X')
    (hN : ∀ X, Below W.heap.size W X → Calls Tryd.prog 44 #[.int .i64 ((y / K : Nat) : Int)] X fun e X' => e = .returned (bsV n) ∧ Below X.heap.size X X')
    (hM2 : ∀ X, Below W.heap.size W X → Calls Tryd.prog 44 #[.int .i64 z] X fun e X' => e = .returned (bsV t) ∧ Below X.heap.size X X') (hg : g.length ≤ 3000) (hn : n.length ≤ 1000) (ht : t.length ≤ 1000)
    (fin : ∀ a X, Below W.heap.size W X → a.defers = a0.defers → a.eval (.tmp 4) = bsV ([32, 32] ++ n ++ dArr ++ t ++ dLab ++ g ++ dEnd) → Q .normal a X) : (Code.region 1 wlOps true).wp Tryd.prog Q a0 W := by
  refine wp_region_vals (by kernel_rfl) a0 W 24 (fun i => [5, 6, 7, 8, 9, 10, 11, 12, 13, 14, 15, 16, 17, 18, 19, 20, 21, 22, 23, 24, 25, 26, 27, 4].getD i 0) (TV [.int .i64 (y : Int), .pointer (some ⟨bx, 0, none⟩), .pointer (some ⟨bx, 1, none⟩), .int .i64 (K : Int), .int .i64 ((y / K : Nat) : Int), bsV n, bsV ([32, 32] ++ n), bsV ([32, 32] ++ n ++ dArr), .pointer (some ⟨bx, 0, none⟩), .pointer (some ⟨bx, 4, none⟩), .slice (some ⟨b, off, none⟩) M c, .int .i64 (y : Int), .pointer (some ⟨b, off + y, none⟩), .int .i64 z, bsV t, bsV ([32, 32] ++ n ++ dArr ++ t), bsV ([32, 32] ++ n ++ dArr ++ t ++ dLab), .pointer (some ⟨bx, 7, none⟩), .func (.func f) #[] lb, .int .i64 (y : Int), bsV g, bsV ([32, 32] ++ n ++ dArr ++ t ++ dLab ++ g), bsV ([32, 32] ++ n ++ dArr ++ t ++ dLab ++ g ++ dEnd), bsV ([32, 32] ++ n ++ dArr ++ t ++ dLab ++ g ++ dEnd)]) rfl (fun _ _ _ _ h _ => h) (by decide) (by rw [hsz]; decide) (hd_of wl_ok) ?_ ?_
  · intro j o ho a X E haft KK hKK
    have hj : j < 24 := (Array.getElem?_eq_some_iff.1 ho).1
    replace e1 : a.eval (.tmp 1) = .int .i64 (y : Int) := (E.ag 1 (by decide)).trans e1
    replace e2 : a.eval (.tmp 2) = .pointer (some ⟨bx, 0, none⟩) := (E.ag 2 (by decide)).trans e2
    have r := Below.refl X.heap.size X
    have bl := E.bl
    clear E
    rcases (by omega : j = 0 ∨ j = 1 ∨ j = 2 ∨ j = 3 ∨ j = 4 ∨ j = 5 ∨ j = 6 ∨ j = 7 ∨ j = 8 ∨ j = 9 ∨ j = 10 ∨ j = 11 ∨ j = 12 ∨ j = 13 ∨ j = 14 ∨ j = 15 ∨ j = 16 ∨ j = 17 ∨ j = 18 ∨ j = 19 ∨ j = 20 ∨ j = 21 ∨ j = 22 ∨ j = 23) with rfl | rfl | rfl | rfl | rfl | rfl | rfl | rfl | rfl | rfl | rfl | rfl | rfl | rfl | rfl | rfl | rfl | rfl | rfl | rfl | rfl | rfl | rfl | rfl
    · obtain rfl : wl0 = o := Option.some.inj ho
      exact wp_valueZ (v := .int .i64 (y : Int)) (w' := X) (by simp [execOp, wl0, e1]) (hKK _ _ r rfl)
    · obtain rfl : wl1 = o := Option.some.inj ho
      exact wp_valueZ (v := .pointer (some ⟨bx, 0, none⟩)) (w' := X) (by simp [execOp, wl1, e2, fldW.1]) (hKK _ _ r rfl)
    · obtain rfl : wl2 = o := Option.some.inj ho
      have d0 : a.eval (.tmp 6) = .pointer (some ⟨bx, 0, none⟩) := haft ⟨1, .data⟩ (by simp [wl2]) rfl
      exact wp_valueZ (v := .pointer (some ⟨bx, 1, none⟩)) (w' := X) (by simp [execOp, wl2, d0, fldM]) (hKK _ _ r rfl)
    · obtain rfl : wl3 = o := Option.some.inj ho
      have d0 : a.eval (.tmp 7) = .pointer (some ⟨bx, 1, none⟩) := haft ⟨2, .data⟩ (by simp [wl3]) rfl
      have q := (bl.cell (p := ⟨bx, 1, none⟩) (World.block_lt_of_cell? W _ q1)).trans q1
      exact wp_valueZ (v := .int .i64 (K : Int)) (w' := X) (by simp [execOp, wl3, d0, loadI q]) (hKK _ _ r rfl)
    · obtain rfl : wl4 = o := Option.some.inj ho
      have d0 : a.eval (.tmp 5) = .int .i64 (y : Int) := haft ⟨0, .data⟩ (by simp [wl4]) rfl
      have d1 : a.eval (.tmp 8) = .int .i64 (K : Int) := haft ⟨3, .data⟩ (by simp [wl4]) rfl
      exact wp_valueZ (w' := X) (run_quo rfl d0 d1 hK hy) (hKK _ _ r rfl)
    · obtain rfl : wl5 = o := Option.some.inj ho
      have d0 : a.eval (.tmp 9) = .int .i64 ((y / K : Nat) : Int) := haft ⟨4, .data⟩ (by simp [wl5]) rfl
      have hc := hN X bl
      refine wp_enterZ (run_call1 rfl (enters_of Tryd.func44 (by kernel_rfl) rfl) d0) hc ?_
      rintro e X' ⟨rfl, hb⟩
      exact ⟨_, rfl, hKK _ _ hb rfl⟩
    · obtain rfl : wl6 = o := Option.some.inj ho
      have d0 : a.eval (.tmp 10) = bsV n := haft ⟨5, .data⟩ (by simp [wl6]) rfl
      exact wp_valueZ (w' := X) (run_add rfl (X := [32, 32]) rfl d0 (by simp; omega)) (hKK _ _ r rfl)
    · obtain rfl : wl7 = o := Option.some.inj ho
      have d0 : a.eval (.tmp 11) = bsV ([32, 32] ++ n) := haft ⟨6, .data⟩ (by simp [wl7]) rfl
      exact wp_valueZ (w' := X) (run_add rfl d0 (Y := dArr) rfl (by simp [dArr]; omega)) (hKK _ _ r rfl)
    · obtain rfl : wl8 = o := Option.some.inj ho
      exact wp_valueZ (v := .pointer (some ⟨bx, 0, none⟩)) (w' := X) (by simp [execOp, wl8, e2, fldW.1]) (hKK _ _ r rfl)
    · obtain rfl : wl9 = o := Option.some.inj ho
      have d0 : a.eval (.tmp 13) = .pointer (some ⟨bx, 0, none⟩) := haft ⟨8, .data⟩ (by simp [wl9]) rfl
      exact wp_valueZ (v := .pointer (some ⟨bx, 4, none⟩)) (w' := X) (by simp [execOp, wl9, d0, fldM]) (hKK _ _ r rfl)
    · obtain rfl : wl10 = o := Option.some.inj ho
      have d0 : a.eval (.tmp 14) = .pointer (some ⟨bx, 4, none⟩) := haft ⟨9, .data⟩ (by simp [wl10]) rfl
      have q := (bl.cell (p := ⟨bx, 4, none⟩) (World.block_lt_of_cell? W _ q2)).trans q2
      exact wp_valueZ (v := .slice (some ⟨b, off, none⟩) M c) (w' := X) (by simp [execOp, wl10, d0, loadS q]) (hKK _ _ r rfl)
    · obtain rfl : wl11 = o := Option.some.inj ho
      exact wp_valueZ (v := .int .i64 (y : Int)) (w' := X) (by simp [execOp, wl11, e1]) (hKK _ _ r rfl)
    · obtain rfl : wl12 = o := Option.some.inj ho
      have d0 : a.eval (.tmp 15) = .slice (some ⟨b, off, none⟩) M c := haft ⟨10, .data⟩ (by simp [wl12]) rfl
      have d1 : a.eval (.tmp 16) = .int .i64 (y : Int) := haft ⟨11, .data⟩ (by simp [wl12]) rfl
      exact wp_valueZ (v := .pointer (some ⟨b, off + y, none⟩)) (w' := X) (by simp [execOp, wl12, d0, d1, idxI hM]) (hKK _ _ r rfl)
    · obtain rfl : wl13 = o := Option.some.inj ho
      have d0 : a.eval (.tmp 17) = .pointer (some ⟨b, off + y, none⟩) := haft ⟨12, .data⟩ (by simp [wl13]) rfl
      have q := (bl.cell (p := ⟨b, off + y, none⟩) (World.block_lt_of_cell? W _ q3)).trans q3
      exact wp_valueZ (v := .int .i64 z) (w' := X) (by simp [execOp, wl13, d0, loadI q]) (hKK _ _ r rfl)
    · obtain rfl : wl14 = o := Option.some.inj ho
      have d0 : a.eval (.tmp 18) = .int .i64 z := haft ⟨13, .data⟩ (by simp [wl14]) rfl
      have hc := hM2 X bl
      refine wp_enterZ (run_call1 rfl (enters_of Tryd.func44 (by kernel_rfl) rfl) d0) hc ?_
      rintro e X' ⟨rfl, hb⟩
      exact ⟨_, rfl, hKK _ _ hb rfl⟩
    · obtain rfl : wl15 = o := Option.some.inj ho
      have d0 : a.eval (.tmp 12) = bsV ([32, 32] ++ n ++ dArr) := haft ⟨7, .data⟩ (by simp [wl15]) rfl
      have d1 : a.eval (.tmp 19) = bsV t := haft ⟨14, .data⟩ (by simp [wl15]) rfl
      exact wp_valueZ (w' := X) (run_add rfl d0 d1 (by simp [dArr]; omega)) (hKK _ _ r rfl)
    · obtain rfl : wl16 = o := Option.some.inj ho
      have d0 : a.eval (.tmp 20) = bsV ([32, 32] ++ n ++ dArr ++ t) := haft ⟨15, .data⟩ (by simp [wl16]) rfl
      exact wp_valueZ (w' := X) (run_add rfl d0 (Y := dLab) rfl (by simp [dArr, dLab]; omega)) (hKK _ _ r rfl)
    · obtain rfl : wl17 = o := Option.some.inj ho
      exact wp_valueZ (v := .pointer (some ⟨bx, 7, none⟩)) (w' := X) (by simp [execOp, wl17, e2, fldW.2.2]) (hKK _ _ r rfl)
    · obtain rfl : wl18 = o := Option.some.inj ho
      have d0 : a.eval (.tmp 22) = .pointer (some ⟨bx, 7, none⟩) := haft ⟨17, .data⟩ (by simp [wl18]) rfl
      have q := (bl.cell (p := ⟨bx, 7, none⟩) (World.block_lt_of_cell? W _ q4)).trans q4
      exact wp_valueZ (v := .func (.func f) #[] lb) (w' := X) (by simp [execOp, wl18, d0, loadF q]) (hKK _ _ r rfl)
    · obtain rfl : wl19 = o := Option.some.inj ho
      exact wp_valueZ (v := .int .i64 (y : Int)) (w' := X) (by simp [execOp, wl19, e1]) (hKK _ _ r rfl)
    · obtain rfl : wl20 = o := Option.some.inj ho
      have d0 : a.eval (.tmp 23) = .func (.func f) #[] lb := haft ⟨18, .data⟩ (by simp [wl20]) rfl
      have d1 : a.eval (.tmp 24) = .int .i64 (y : Int) := haft ⟨19, .data⟩ (by simp [wl20]) rfl
      have hc := hT X bl
      refine wp_enterZ (run_callv rfl d0 hen d1) hc ?_
      rintro e X' ⟨rfl, hb⟩
      exact ⟨_, rfl, hKK _ _ hb rfl⟩
    · obtain rfl : wl21 = o := Option.some.inj ho
      have d0 : a.eval (.tmp 21) = bsV ([32, 32] ++ n ++ dArr ++ t ++ dLab) := haft ⟨16, .data⟩ (by simp [wl21]) rfl
      have d1 : a.eval (.tmp 25) = bsV g := haft ⟨20, .data⟩ (by simp [wl21]) rfl
      exact wp_valueZ (w' := X) (run_add rfl d0 d1 (by simp [dArr, dLab]; omega)) (hKK _ _ r rfl)
    · obtain rfl : wl22 = o := Option.some.inj ho
      have d0 : a.eval (.tmp 26) = bsV ([32, 32] ++ n ++ dArr ++ t ++ dLab ++ g) := haft ⟨21, .data⟩ (by simp [wl22]) rfl
      exact wp_valueZ (w' := X) (run_add rfl d0 (Y := dEnd) rfl (by simp [dArr, dLab, dEnd]; omega)) (hKK _ _ r rfl)
    · obtain rfl : wl23 = o := Option.some.inj ho
      have d0 : a.eval (.tmp 27) = bsV ([32, 32] ++ n ++ dArr ++ t ++ dLab ++ g ++ dEnd) := haft ⟨22, .data⟩ (by simp [wl23]) rfl
      exact wp_valueZ (v := bsV ([32, 32] ++ n ++ dArr ++ t ++ dLab ++ g ++ dEnd)) (w' := X) (by simp [execOp, wl23, d0]) (hKK _ _ r rfl)
  · intro a X E
    exact fin a X E.bl E.df (E.vs 23 (by decide) trivial)

end Go.Proofs.YtbhdcgebcmgidaaDoor

/-
  The contracts of withSaid's function, of stateLine and of wayLine.
-/
namespace Go.Proofs.YtbhdcgebcmgidaaDoor
open Go.RowKit

/-- What a result's slot holds is returned. -/
theorem ret_slot {fn : Func} {t : Nat} {R : Ending → World → Prop} {a : Act} {X : World} {v : Value} (h : fn.results = #[.tmp t]) (hd : a.defers = []) (hv : a.eval (.tmp t) = v) (hR : R (.returned v) X) : Code.ret.wp Tryd.prog (bodyPost Tryd.prog fn R) a X := by
  refine wp_ret (bodyPost_ret (results_tmp h _ _ _) hd ?_)
  have e : a.tmps.getD t undef = v := hv
  rw [e]; exact hR

set_option maxRecDepth 100000 in
set_option maxHeartbeats 2000000 in
theorem said_tells (W0 : World) (m : Mc) (a1 : Option Addr) (c1 : Nat) (a2 : Option Addr) (c2 b1 b2 : Nat) (f : Nat) (lb : Array Value) (n : Nat) (g : Nat → List UInt8) (h1 : Bk W0 b1 [.func (.func f) #[] lb] 50) (h2 : Bk W0 b2 (mC m a1 c1 a2 c2) 24) (ht : TellsF W0 (.func (.func f) #[] lb) n g) (ho : RdL .i64 W0 a2 m.out) (hn : n ≤ m.out.length) (hg : ∀ i, (g i).length ≤ 1000) (hfit : ∀ i, i < n → FitP (m.out.getD i 0)) (hit : ∀ i, i < n → (Lib.itoa (m.out.getD i 0)).length ≤ 1000) (gp : Gp W0) :
    TellsF W0 (.func (.func 43) #[] #[ptr b1, ptr b2]) n (fun i => g i ++ [47] ++ Lib.itoa (m.out.getD i 0)) := by
  refine ⟨_, _, rfl, enters_of Tryd.func43 (by kernel_rfl) rfl, fun W hW i hi => ?_⟩
  show Calls Tryd.prog 43 #[.int .i64 (i : Int), ptr b1, ptr b2] W fun e W' => e = .returned (bsV (g i ++ [47] ++ Lib.itoa (m.out.getD i 0))) ∧ Below W.heap.size W W'
  obtain ⟨f', lb', e, hen, ht⟩ := ht
  obtain ⟨rfl, rfl⟩ : f = f' ∧ lb = lb' := by
    injection e with e1 _ e3; injection e1 with e1; exact ⟨e1, e3⟩
  have HT := hide (fun X (h : Below W.heap.size W X) => ht X (bstep hW h) i hi)
  have q1 := (h1.below hW).cell 0
  have q2 := (h2.below hW).cell 5
  simp only [mC, List.getElem?_cons_succ, List.getElem?_cons_zero] at q1 q2
  obtain ⟨b, off, rfl, hcs⟩ := (ho.below hW).at (show i < m.out.length by omega)
  have q3 := hcs i (by omega)
  have HN := hide (fun X (h : Below W.heap.size W X) => dnumber_any (m.out.getD i 0) X (hfit i hi) ((gp.below hW).below h))
  have H1 := hide (hg i)
  have H2 := hide (hit i hi)
  have HEN := hide hen
  clear hcs e ht h1 h2 ho hg hfit hit hen
  generalize m.out.getD i 0 = y at *
  go_enter Tryd.func43, Tryd.ntmps43
  go_wp2
  rename_i Q' K hK
  refine ws_region _ W i b1 b2 b off m.out.length c2 f lb y (g i) (Lib.itoa y) rfl rfl rfl rfl q1 q2 q3 (by omega) (unhide HEN) (unhide HT) (unhide HN) (unhide H1) (unhide H2) ?_
  intro a X hb hd hv
  exact hK _ _ (ret_slot rfl hd hv ⟨rfl, hb⟩)

/-- The writer's value. -/
def wrV (m : Mc) (a1 : Option Addr) (c1 : Nat) (a2 : Option Addr) (c2 : Nat) (s l : Value) : Value := .agg #[.int .i64 m.kind, .int .i64 m.k, .int .i64 m.o, .int .i64 m.n, .slice a1 m.nx.length c1, .slice a2 m.out.length c2, s, l]
def wrC (m : Mc) (a1 : Option Addr) (c1 : Nat) (a2 : Option Addr) (c2 : Nat) (s l : Value) : List Value := [.int .i64 m.kind, .int .i64 m.k, .int .i64 m.o, .int .i64 m.n, .slice a1 m.nx.length c1, .slice a2 m.out.length c2, s, l]

set_option maxRecDepth 100000 in
set_option maxHeartbeats 2000000 in
theorem stateLine_any (W0 : World) (m : Mc) (a1 : Option Addr) (c1 : Nat) (a2 : Option Addr) (c2 : Nat) (fs : Nat) (ls : Array Value) (fl : Nat) (ll : Array Value) (n : Nat) (g : Nat → List UInt8) (ht : TellsF W0 (.func (.func fs) #[] ls) n g) (hg : ∀ i, (g i).length ≤ 1100) (hn : n ≤ 1000000) (hit : ∀ i : Nat, i < n → (Lib.itoa (i : Int)).length ≤ 1000) (gp : Gp W0)
    (W : World) (hW : Below W0.heap.size W0 W) (s : Nat) (hs : s < n) :
    Calls Tryd.prog 48 #[wrV m a1 c1 a2 c2 (.func (.func fs) #[] ls) (.func (.func fl) #[] ll), .int .i64 (s : Int)] W fun e W' => e = .returned (bsV ([32, 32] ++ Lib.itoa (s : Int) ++ sShp ++ g s ++ [93])) ∧ Below W.heap.size W W' := by
  obtain ⟨f', lb', e, hen, ht⟩ := ht
  obtain ⟨rfl, rfl⟩ : fs = f' ∧ ls = lb' := by
    injection e with e1 _ e3; injection e1 with e1; exact ⟨e1, e3⟩
  have ba := ballo W (.cells (wrC m a1 c1 a2 c2 (.func (.func fs) #[] ls) (.func (.func fl) #[] ll)).toArray 52)
  have hb := Bk.new W (wrC m a1 c1 a2 c2 (.func (.func fs) #[] ls) (.func (.func fl) #[] ll)) 52
  have q1 := hb.cell 6
  have HT := hide (fun X (h : Below (W.alloc (.cells (wrC m a1 c1 a2 c2 (.func (.func fs) #[] ls) (.func (.func fl) #[] ll)).toArray 52)).heap.size _ X) => ht X (bstep hW (bstep ba h)) s hs)
  have HN := hide (fun X (h : Below (W.alloc (.cells (wrC m a1 c1 a2 c2 (.func (.func fs) #[] ls) (.func (.func fl) #[] ll)).toArray 52)).heap.size _ X) => dnumber_any (s : Int) X (fitN (by omega)) ((gp.below hW).below (bstep ba h)))
  have HEN := hide hen
  have H1 := hide (hg s)
  have H2 := hide (hit s hs)
  have HB := hide ba
  clear ht hen e hg hit ba
  unfold wrC at *
  simp only [List.getElem?_cons_succ, List.getElem?_cons_zero] at q1
  unfold wrV
  go_enter Tryd.func48, Tryd.ntmps48
  go_wp2
  rename_i Q' K hK
  refine sl_region _ _ s W.heap.size fs ls (Lib.itoa (s : Int)) (g s) rfl rfl rfl q1 (unhide HEN) (unhide HT) (unhide HN) (unhide H1) (unhide H2) ?_
  intro a X hb hd hv
  exact hK _ _ (ret_slot rfl hd hv ⟨rfl, bstep (unhide HB) hb⟩)

set_option maxRecDepth 100000 in
set_option maxHeartbeats 2000000 in
theorem wayLine_any (W0 : World) (m : Mc) (a1 : Option Addr) (c1 : Nat) (a2 : Option Addr) (c2 : Nat) (fs : Nat) (ls : Array Value) (fl : Nat) (ll : Array Value) (n K : Nat) (g : Nat → List UInt8) (ht : TellsF W0 (.func (.func fl) #[] ll) n g) (h1 : RdL .i64 W0 a1 m.nx) (hk : m.k = (K : Int)) (hK : 1 ≤ K) (hg : ∀ i, (g i).length ≤ 3000) (hn : n ≤ m.nx.length) (hl : m.nx.length ≤ 1000000) (hit : ∀ i : Nat, i < n → (Lib.itoa ((i / K : Nat) : Int)).length ≤ 1000) (hfit : ∀ i, i < n → FitP (m.nx.getD i 0)) (hit2 : ∀ i, i < n → (Lib.itoa (m.nx.getD i 0)).length ≤ 1000) (gp : Gp W0)
    (W : World) (hW : Below W0.heap.size W0 W) (y : Nat) (hy : y < n) :
    Calls Tryd.prog 49 #[wrV m a1 c1 a2 c2 (.func (.func fs) #[] ls) (.func (.func fl) #[] ll), .int .i64 (y : Int)] W fun e W' => e = .returned (bsV ([32, 32] ++ Lib.itoa ((y / K : Nat) : Int) ++ dArr ++ Lib.itoa (m.nx.getD y 0) ++ dLab ++ g y ++ dEnd)) ∧ Below W.heap.size W W' := by
  obtain ⟨f', lb', e, hen, ht⟩ := ht
  obtain ⟨rfl, rfl⟩ : fl = f' ∧ ll = lb' := by
    injection e with e1 _ e3; injection e1 with e1; exact ⟨e1, e3⟩
  have ba := ballo W (.cells (wrC m a1 c1 a2 c2 (.func (.func fs) #[] ls) (.func (.func fl) #[] ll)).toArray 52)
  have hb := Bk.new W (wrC m a1 c1 a2 c2 (.func (.func fs) #[] ls) (.func (.func fl) #[] ll)) 52
  have q1 := hb.cell 1
  have q2 := hb.cell 4
  have q4 := hb.cell 7
  obtain ⟨b, off, rfl, hcs⟩ := ((h1.below hW).below ba).at (show y < m.nx.length by omega)
  have q3 := hcs y (by omega)
  have hyK : y / K ≤ y := Nat.div_le_self _ _
  have HT := hide (fun X (h : Below (W.alloc (.cells (wrC m (some ⟨b, off, none⟩) c1 a2 c2 (.func (.func fs) #[] ls) (.func (.func fl) #[] ll)).toArray 52)).heap.size _ X) => ht X (bstep hW (bstep ba h)) y hy)
  have HN := hide (fun X (h : Below (W.alloc (.cells (wrC m (some ⟨b, off, none⟩) c1 a2 c2 (.func (.func fs) #[] ls) (.func (.func fl) #[] ll)).toArray 52)).heap.size _ X) => dnumber_any ((y / K : Nat) : Int) X (fitN (Nat.le_trans hyK (by omega))) ((gp.below hW).below (bstep ba h)))
  have HM := hide (fun X (h : Below (W.alloc (.cells (wrC m (some ⟨b, off, none⟩) c1 a2 c2 (.func (.func fs) #[] ls) (.func (.func fl) #[] ll)).toArray 52)).heap.size _ X) => dnumber_any (m.nx.getD y 0) X (hfit y hy) ((gp.below hW).below (bstep ba h)))
  have HEN := hide hen
  have H1 := hide (hg y)
  have H2 := hide (hit y hy)
  have H3 := hide (hit2 y hy)
  have HB := hide ba
  have hyM : y < m.nx.length := by omega
  have hyX : y ≤ 1000000 := by omega
  clear ht hen e hg hit hit2 hfit ba h1 hcs
  unfold wrC at *
  simp only [List.getElem?_cons_succ, List.getElem?_cons_zero] at q1 q2 q4
  replace q1 := q1.trans (congrArg (fun z => some (Value.int .i64 z)) hk)
  unfold wrV
  generalize m.nx.getD y 0 = z at *
  have HQ := hide q1
  have HK := hide hk
  clear q1 hk
  go_enter Tryd.func49, Tryd.ntmps49
  go_wp2
  rename_i Q' K' hK'
  refine wl_region _ _ y K W.heap.size fl b off m.nx.length c1 z ll (Lib.itoa ((y / K : Nat) : Int)) (Lib.itoa z) (g y) rfl rfl rfl (unhide HQ) q2 q3 q4 hK hyX hyM (unhide HEN) (unhide HT) (unhide HN) (unhide HM) (unhide H1) (unhide H2) (unhide H3) ?_
  intro a X hb hd hv
  exact hK' _ _ (ret_slot rfl hd hv ⟨rfl, bstep (unhide HB) hb⟩)

end Go.Proofs.YtbhdcgebcmgidaaDoor
