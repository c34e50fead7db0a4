/-
  Some texts of this seat, one behind the other.
-/
import Derived.Test.YtlcablkhomnieaaK1
import Derived.Test.YtlcablkhomnieaaK47
/-
  The program's tree: whether a word is a state's access word.
-/
namespace Go.Proofs.Ytlcablkhomnieaa
set_option linter.unusedVariables false
open Go.RowKit

section
variable {B : Nat} {w w' : World} {p : Tp} {s : Tr}
set_option maxRecDepth 100000 in
set_option maxHeartbeats 4000000 in
theorem acc1_any (h : TM B w p s) (W : s.Wf) {j : Nat} (hj : j < s.nl) (z : Nat) (a : Option Addr) (c : Nat) (l : List Int) (hz : w.cell? ⟨z, 0, none⟩ = some (.slice a l.length c)) (hr : RdL .i64 w a l) :
    Calls Try.prog 74 #[.pointer (some ⟨p.fb j, 0, none⟩), .pointer (some ⟨z, 0, none⟩)] w fun e w' => e = .returned (.bool (decide ((s.lf j).ac = l))) ∧ Below w.heap.size w w' := by
  have f4 := h.f4 hj
  obtain ⟨-, s1, s2⟩ := own_nil (h.ac j hj)
  have hl := (W.ac j hj).2
  have HE := hide fun (X : World) (hX : Below w.heap.size w X) => equal_any (p.fa j) a (p.fc j) c (s.lf j).ac l X (s2.below hX) (hr.below hX) (by unfold maxLen; omega)
  clear h W
  generalize decide ((s.lf j).ac = l) = D at *
  generalize p.fb j = q at *
  go_enter Try.func74, Try.ntmps74
  go_wp2
  refine ac_region w q z (p.fa j) (s.lf j).ac.length (p.fc j) a l.length c D _ _ _ _ _ _ _ _ _ f4 hz (unhide HE) ?_
  rintro X u4 u5 u6 u7 u8 u9 hX
  go_wp2
  go_ret
  exact ⟨rfl, hX⟩
set_option maxRecDepth 100000 in
set_option maxHeartbeats 4000000 in
theorem accI_any (h : TM B w p s) (W : s.Wf) (z : Nat) (a : Option Addr) (c : Nat) (l : List Int) (hz : w.cell? ⟨z, 0, none⟩ = some (.slice a l.length c)) (hr : RdL .i64 w a l) :
    Calls Try.prog 78 #[.slice p.lv s.nl p.lc, .func (.func 74) #[] #[.pointer (some ⟨z, 0, none⟩)]] w fun e w' => ∃ r : Int, e = .returned (.int .i64 r) ∧ (0 ≤ r ↔ ∃ i, i < s.nl ∧ (s.lf i).ac = l) ∧ Below w.heap.size w w' := by
  obtain ⟨g, e1, e2, e3, -⟩ := h.at (j := 0) (by have := W.n0; omega)
  have HC := hide fun (X : World) (hX : Below w.heap.size w X) (i : Nat) (hi : i < s.nl) => show X.cell? ⟨g, i, none⟩ = some (.pointer (some ⟨p.fb i, 0, none⟩)) from by
    obtain ⟨g', q1, -, -, q4⟩ := (h.below hX).at hi
    rw [e1] at q1
    cases q1
    exact q4 i hi
  have HA := hide fun (X : World) (hX : Below w.heap.size w X) (i : Nat) (hi : i < s.nl) => acc1_any (h.below hX) W hi z a c l ((hX.cell (World.block_lt_of_cell? _ _ hz)).trans hz) (hr.below hX)
  have hn1 := W.n1
  rw [e1]
  clear h W hz hr
  go_enter Try.func78, Try.ntmps78
  go_wp2
  go_loopw [8] (fun iv wr => ∃ I : Nat, iv = .int .i64 (I : Int) ∧ I ≤ s.nl ∧ Hid (∀ i, i < I → (s.lf i).ac ≠ l) ∧ Below w.heap.size w wr) (fun iv _ => s.nl - (intOf iv).toNat)
  case atStart => exact ⟨0, rfl, Nat.zero_le _, hide (fun i hi => by omega), Below.refl _ _⟩
  case round =>
    obtain ⟨I, rfl, hI, HN, hB⟩ := hrel
    by_cases hlt : I < s.nl
    · have hlt' : (I : Int) < (s.nl : Int) := by omega
      have c0 := unhide HC wr hB I hlt
      have hcl := unhide HA wr hB I hlt
      by_cases he : (s.lf I).ac = l
      · rw [decide_eq_true he] at hcl
        have HP : Hid ((0 : Int) ≤ (I : Int) ↔ ∃ i, i < s.nl ∧ (s.lf i).ac = l) := hide ⟨fun _ => ⟨I, hlt, he⟩, fun _ => by omega⟩
        clear he
        go_wp2_with (go_at_call 74; refine hcl.mono ?_; rintro e w1 ⟨rfl, hb1⟩; have hBB := bstep hB hb1)
        go_ret
        exact ⟨_, rfl, unhide HP, hBB⟩
      · rw [decide_eq_false he] at hcl
        have HN2 : Hid (∀ i, i < I + 1 → (s.lf i).ac ≠ l) := hide fun i hi => by
          rcases Nat.lt_or_ge i I with q | q
          · exact unhide HN i q
          · obtain rfl : i = I := by omega
            exact he
        clear he
        go_wp2_with (go_at_call 74; refine hcl.mono ?_; rintro e w1 ⟨rfl, hb1⟩)
        go_roundw
        case rel => exact ⟨I + 1, by go_num, by omega, HN2, bstep hB hb1⟩
        case measure => simp [intOf]; omega
    · obtain rfl : I = s.nl := by omega
      have HP : Hid ((0 : Int) ≤ -1 ↔ ∃ i, i < s.nl ∧ (s.lf i).ac = l) := hide ⟨fun h => by omega, fun ⟨i, hi, e⟩ => absurd e (unhide HN i hi)⟩
      go_wp2
      go_ret
      exact ⟨_, rfl, unhide HP, hB⟩
set_option maxRecDepth 100000 in
set_option maxHeartbeats 4000000 in
theorem isAccess_any (h : TM B w p s) (W : s.Wf) (a : Option Addr) (c : Nat) (l : List Int) (hr : RdL .i64 w a l) :
    Calls Try.prog 69 #[.pointer (some ⟨p.b, 0, none⟩), .slice a l.length c] w fun e w' => e = .returned (.bool (decide (∃ i, i < s.nl ∧ (s.lf i).ac = l))) ∧ Below w.heap.size w w' := by
  have hb0 := ballo w (.cells #[.slice a l.length c] 29)
  have h1 := h.below hb0
  have c4 := h1.c4
  have HI := accI_any h1 W w.heap.size a c l (by simp) (hr.below hb0)
  have HB := hide hb0
  have hz := h.o.lt
  clear h h1 hr W hb0
  have hcon : Calls Try.prog 73 #[.slice p.lv s.nl p.lc, .func (.func 74) #[] #[.pointer (some ⟨w.heap.size, 0, none⟩)]] (w.alloc (.cells #[.slice a l.length c] 29)) fun e w' => e = .returned (.bool (decide (∃ i, i < s.nl ∧ (s.lf i).ac = l))) ∧ Below (w.alloc (.cells #[.slice a l.length c] 29)).heap.size (w.alloc (.cells #[.slice a l.length c] 29)) w' := by
    clear c4
    go_enter Try.func73, Try.ntmps73
    go_wp2_with fail
    refine HI.mono ?_
    rintro e w1 ⟨r, rfl, hiff, hb1⟩
    have HF : Hid (decide (r ≥ 0) = decide (∃ i, i < s.nl ∧ (s.lf i).ac = l)) := hide (decide_eq_decide.2 hiff)
    clear hiff HI
    go_wp2
    go_ret
    exact ⟨by rw [← unhide HF]; rfl, hb1⟩
  clear HI
  go_enter Try.func69, Try.ntmps69
  go_wp2_with fail
  refine hcon.mono ?_
  rintro e w1 ⟨rfl, hb1⟩
  have HQ := hide (bstep (unhide HB) hb1)
  clear hcon c4 hb1
  go_wp2
  go_ret
  exact ⟨rfl, unhide HQ⟩
end

end Go.Proofs.Ytlcablkhomnieaa

/-
  The program's tree: what Split asks ahead.
-/
namespace Go.Proofs.Ytlcablkhomnieaa
set_option linter.unusedVariables false
open Go.RowKit

set_option maxRecDepth 100000 in
set_option maxHeartbeats 4000000 in
theorem chk_a (w : World) (b : Nat) (j kk kind ZD ZW ED EW : Int) (ad : Option Addr) (dn cd : Nat) (al : Option Addr) (ln cl : Nat) (a1 : Option Addr) (n1 c1 : Nat) (a2 : Option Addr) (n2 c2 : Nat) (k0 : w.cell? ⟨b, 0, none⟩ = some (.int .i64 kind)) (k1 : w.cell? ⟨b, 1, none⟩ = some (.int .i64 kk))
    (hh : Calls Try.prog 60 #[.pointer (some ⟨b, 0, none⟩), .int .i64 j] w fun e w' => e = .returned (.bool false) ∧ w' = w) :
    Calls Try.prog 54 #[.pointer (some ⟨b, 0, none⟩), .int .i64 j, .slice ad dn cd, .slice al ln cl, .slice a1 n1 c1, .slice a2 n2 c2] w fun e w' => e = .returned (.int .i64 32) ∧ Below w.heap.size w w' := by
  have hB : Below w.heap.size w w := Below.refl _ _
  go_enter Try.func54, Try.ntmps54
  go_wp2_with fail
  refine hh.mono ?_
  rintro e wn ⟨rfl, hwn⟩
  rw [hwn]
  clear hwn hh
  go_wp2
  go_ret
  exact ⟨by first | rfl | simp, hB⟩
set_option maxRecDepth 100000 in
set_option maxHeartbeats 4000000 in
theorem chk_b (w : World) (b : Nat) (j kk kind ZD ZW ED EW : Int) (ad : Option Addr) (dn cd : Nat) (al : Option Addr) (ln cl : Nat) (a1 : Option Addr) (n1 c1 : Nat) (a2 : Option Addr) (n2 c2 : Nat) (k0 : w.cell? ⟨b, 0, none⟩ = some (.int .i64 kind)) (k1 : w.cell? ⟨b, 1, none⟩ = some (.int .i64 kk))
    (hh : Calls Try.prog 60 #[.pointer (some ⟨b, 0, none⟩), .int .i64 j] w fun e w' => e = .returned (.bool true) ∧ w' = w)
    (hcd : Calls Try.prog 40 #[.slice ad dn cd, .int .i64 kk] w fun e w' => e = .returned (.tuple #[.int .i64 ZD, .int .i64 ED]) ∧ w' = w)
    (t1 : (ED != 0) = true) :
    Calls Try.prog 54 #[.pointer (some ⟨b, 0, none⟩), .int .i64 j, .slice ad dn cd, .slice al ln cl, .slice a1 n1 c1, .slice a2 n2 c2] w fun e w' => e = .returned (.int .i64 ED) ∧ Below w.heap.size w w' := by
  have hB : Below w.heap.size w w := Below.refl _ _
  go_enter Try.func54, Try.ntmps54
  go_wp2_with fail
  refine hh.mono ?_
  rintro e wn ⟨rfl, hwn⟩
  rw [hwn]
  clear hwn hh
  go_wp2_with fail
  refine hcd.mono ?_
  rintro e wn ⟨rfl, hwn⟩
  rw [hwn]
  clear hwn hcd
  go_wp2
  go_ret
  exact ⟨by first | rfl | simp, hB⟩
set_option maxRecDepth 100000 in
set_option maxHeartbeats 4000000 in
theorem chk_c (w : World) (b : Nat) (j kk kind ZD ZW ED EW : Int) (ad : Option Addr) (dn cd : Nat) (al : Option Addr) (ln cl : Nat) (a1 : Option Addr) (n1 c1 : Nat) (a2 : Option Addr) (n2 c2 : Nat) (k0 : w.cell? ⟨b, 0, none⟩ = some (.int .i64 kind)) (k1 : w.cell? ⟨b, 1, none⟩ = some (.int .i64 kk))
    (hh : Calls Try.prog 60 #[.pointer (some ⟨b, 0, none⟩), .int .i64 j] w fun e w' => e = .returned (.bool true) ∧ w' = w)
    (hcd : Calls Try.prog 40 #[.slice ad dn cd, .int .i64 kk] w fun e w' => e = .returned (.tuple #[.int .i64 ZD, .int .i64 0]) ∧ w' = w)
    (hcw : Calls Try.prog 40 #[.slice al ln cl, .int .i64 kk] w fun e w' => e = .returned (.tuple #[.int .i64 ZW, .int .i64 EW]) ∧ w' = w)
    (t2 : (EW != 0) = true) :
    Calls Try.prog 54 #[.pointer (some ⟨b, 0, none⟩), .int .i64 j, .slice ad dn cd, .slice al ln cl, .slice a1 n1 c1, .slice a2 n2 c2] w fun e w' => e = .returned (.int .i64 EW) ∧ Below w.heap.size w w' := by
  have hB : Below w.heap.size w w := Below.refl _ _
  go_enter Try.func54, Try.ntmps54
  go_wp2_with fail
  refine hh.mono ?_
  rintro e wn ⟨rfl, hwn⟩
  rw [hwn]
  clear hwn hh
  go_wp2_with fail
  refine hcd.mono ?_
  rintro e wn ⟨rfl, hwn⟩
  rw [hwn]
  clear hwn hcd
  go_wp2_with fail
  refine hcw.mono ?_
  rintro e wn ⟨rfl, hwn⟩
  rw [hwn]
  clear hwn hcw
  go_wp2
  go_ret
  exact ⟨by first | rfl | simp, hB⟩
set_option maxRecDepth 100000 in
set_option maxHeartbeats 4000000 in
theorem chk_d (w : World) (b : Nat) (j kk kind ZD ZW ED EW : Int) (ad : Option Addr) (dn cd : Nat) (al : Option Addr) (ln cl : Nat) (a1 : Option Addr) (n1 c1 : Nat) (a2 : Option Addr) (n2 c2 : Nat) (k0 : w.cell? ⟨b, 0, none⟩ = some (.int .i64 kind)) (k1 : w.cell? ⟨b, 1, none⟩ = some (.int .i64 kk))
    (hh : Calls Try.prog 60 #[.pointer (some ⟨b, 0, none⟩), .int .i64 j] w fun e w' => e = .returned (.bool true) ∧ w' = w)
    (hcd : Calls Try.prog 40 #[.slice ad dn cd, .int .i64 kk] w fun e w' => e = .returned (.tuple #[.int .i64 ZD, .int .i64 0]) ∧ w' = w)
    (hcw : Calls Try.prog 40 #[.slice al ln cl, .int .i64 kk] w fun e w' => e = .returned (.tuple #[.int .i64 ZW, .int .i64 0]) ∧ w' = w)
    (t3 : (kind == 2) = true) (t4 : ((dn : Int) == 0) = true) :
    Calls Try.prog 54 #[.pointer (some ⟨b, 0, none⟩), .int .i64 j, .slice ad dn cd, .slice al ln cl, .slice a1 n1 c1, .slice a2 n2 c2] w fun e w' => e = .returned (.int .i64 1) ∧ Below w.heap.size w w' := by
  have hB : Below w.heap.size w w := Below.refl _ _
  go_enter Try.func54, Try.ntmps54
  go_wp2_with fail
  refine hh.mono ?_
  rintro e wn ⟨rfl, hwn⟩
  rw [hwn]
  clear hwn hh
  go_wp2_with fail
  refine hcd.mono ?_
  rintro e wn ⟨rfl, hwn⟩
  rw [hwn]
  clear hwn hcd
  go_wp2_with fail
  refine hcw.mono ?_
  rintro e wn ⟨rfl, hwn⟩
  rw [hwn]
  clear hwn hcw
  go_wp2
  go_ret
  exact ⟨by first | rfl | simp, hB⟩
set_option maxRecDepth 100000 in
set_option maxHeartbeats 4000000 in
theorem chk_e1 (w : World) (b : Nat) (j kk kind ZD ZW ED EW : Int) (ad : Option Addr) (dn cd : Nat) (al : Option Addr) (ln cl : Nat) (a1 : Option Addr) (n1 c1 : Nat) (a2 : Option Addr) (n2 c2 : Nat) (k0 : w.cell? ⟨b, 0, none⟩ = some (.int .i64 kind)) (k1 : w.cell? ⟨b, 1, none⟩ = some (.int .i64 kk))
    (hh : Calls Try.prog 60 #[.pointer (some ⟨b, 0, none⟩), .int .i64 j] w fun e w' => e = .returned (.bool true) ∧ w' = w)
    (hcd : Calls Try.prog 40 #[.slice ad dn cd, .int .i64 kk] w fun e w' => e = .returned (.tuple #[.int .i64 ZD, .int .i64 0]) ∧ w' = w)
    (hcw : Calls Try.prog 40 #[.slice al ln cl, .int .i64 kk] w fun e w' => e = .returned (.tuple #[.int .i64 ZW, .int .i64 0]) ∧ w' = w)
    (t3 : (kind == 2) = true) (t4 : ((dn : Int) == 0) = false)
    (hf1 : Calls Try.prog 44 #[.pointer (some ⟨b, 0, none⟩), .slice ad dn cd, .slice a1 n1 c1] w fun e w' => e = .returned (.bool false) ∧ Below w.heap.size w w') :
    Calls Try.prog 54 #[.pointer (some ⟨b, 0, none⟩), .int .i64 j, .slice ad dn cd, .slice al ln cl, .slice a1 n1 c1, .slice a2 n2 c2] w fun e w' => e = .returned (.int .i64 100) ∧ Below w.heap.size w w' := by
  have hB : Below w.heap.size w w := Below.refl _ _
  go_enter Try.func54, Try.ntmps54
  go_wp2_with fail
  refine hh.mono ?_
  rintro e wn ⟨rfl, hwn⟩
  rw [hwn]
  clear hwn hh
  go_wp2_with fail
  refine hcd.mono ?_
  rintro e wn ⟨rfl, hwn⟩
  rw [hwn]
  clear hwn hcd
  go_wp2_with fail
  refine hcw.mono ?_
  rintro e wn ⟨rfl, hwn⟩
  rw [hwn]
  clear hwn hcw
  go_wp2_with fail
  refine hf1.mono ?_
  rintro e w1 ⟨rfl, hb⟩
  have hB := hb
  clear hb hf1 k0 k1
  go_wp2
  go_ret
  exact ⟨by first | rfl | simp, hB⟩
set_option maxRecDepth 100000 in
set_option maxHeartbeats 4000000 in
theorem chk_f1 (w : World) (b : Nat) (j kk kind ZD ZW ED EW : Int) (ad : Option Addr) (dn cd : Nat) (al : Option Addr) (ln cl : Nat) (a1 : Option Addr) (n1 c1 : Nat) (a2 : Option Addr) (n2 c2 : Nat) (k0 : w.cell? ⟨b, 0, none⟩ = some (.int .i64 kind)) (k1 : w.cell? ⟨b, 1, none⟩ = some (.int .i64 kk))
    (hh : Calls Try.prog 60 #[.pointer (some ⟨b, 0, none⟩), .int .i64 j] w fun e w' => e = .returned (.bool true) ∧ w' = w)
    (hcd : Calls Try.prog 40 #[.slice ad dn cd, .int .i64 kk] w fun e w' => e = .returned (.tuple #[.int .i64 ZD, .int .i64 0]) ∧ w' = w)
    (hcw : Calls Try.prog 40 #[.slice al ln cl, .int .i64 kk] w fun e w' => e = .returned (.tuple #[.int .i64 ZW, .int .i64 0]) ∧ w' = w)
    (t3 : (kind == 2) = true) (t4 : ((dn : Int) == 0) = false)
    (hf1 : Calls Try.prog 44 #[.pointer (some ⟨b, 0, none⟩), .slice ad dn cd, .slice a1 n1 c1] w fun e w' => e = .returned (.bool true) ∧ Below w.heap.size w w')
    (HF2 : Hid (∀ X, Below w.heap.size w X → Calls Try.prog 44 #[.pointer (some ⟨b, 0, none⟩), .slice ad dn cd, .slice a2 n2 c2] X fun e w' => e = .returned (.bool false) ∧ Below X.heap.size X w')) :
    Calls Try.prog 54 #[.pointer (some ⟨b, 0, none⟩), .int .i64 j, .slice ad dn cd, .slice al ln cl, .slice a1 n1 c1, .slice a2 n2 c2] w fun e w' => e = .returned (.int .i64 100) ∧ Below w.heap.size w w' := by
  have hB : Below w.heap.size w w := Below.refl _ _
  go_enter Try.func54, Try.ntmps54
  go_wp2_with fail
  refine hh.mono ?_
  rintro e wn ⟨rfl, hwn⟩
  rw [hwn]
  clear hwn hh
  go_wp2_with fail
  refine hcd.mono ?_
  rintro e wn ⟨rfl, hwn⟩
  rw [hwn]
  clear hwn hcd
  go_wp2_with fail
  refine hcw.mono ?_
  rintro e wn ⟨rfl, hwn⟩
  rw [hwn]
  clear hwn hcw
  go_wp2_with fail
  refine hf1.mono ?_
  rintro e w1 ⟨rfl, hb⟩
  have hB := hb
  clear hb hf1 k0 k1
  go_wp2_with fail
  refine (unhide HF2 _ hB).mono ?_
  rintro e w2 ⟨rfl, hb⟩
  have hB := bstep hB hb
  clear hb
  go_wp2
  go_ret
  exact ⟨by first | rfl | simp, hB⟩
set_option maxRecDepth 100000 in
set_option maxHeartbeats 4000000 in
theorem chk_g1 (w : World) (b : Nat) (j kk kind ZD ZW ED EW : Int) (ad : Option Addr) (dn cd : Nat) (al : Option Addr) (ln cl : Nat) (a1 : Option Addr) (n1 c1 : Nat) (a2 : Option Addr) (n2 c2 : Nat) (k0 : w.cell? ⟨b, 0, none⟩ = some (.int .i64 kind)) (k1 : w.cell? ⟨b, 1, none⟩ = some (.int .i64 kk))
    (hh : Calls Try.prog 60 #[.pointer (some ⟨b, 0, none⟩), .int .i64 j] w fun e w' => e = .returned (.bool true) ∧ w' = w)
    (hcd : Calls Try.prog 40 #[.slice ad dn cd, .int .i64 kk] w fun e w' => e = .returned (.tuple #[.int .i64 ZD, .int .i64 0]) ∧ w' = w)
    (hcw : Calls Try.prog 40 #[.slice al ln cl, .int .i64 kk] w fun e w' => e = .returned (.tuple #[.int .i64 ZW, .int .i64 0]) ∧ w' = w)
    (t3 : (kind == 2) = true) (t4 : ((dn : Int) == 0) = false)
    (hf1 : Calls Try.prog 44 #[.pointer (some ⟨b, 0, none⟩), .slice ad dn cd, .slice a1 n1 c1] w fun e w' => e = .returned (.bool true) ∧ Below w.heap.size w w')
    (HF2 : Hid (∀ X, Below w.heap.size w X → Calls Try.prog 44 #[.pointer (some ⟨b, 0, none⟩), .slice ad dn cd, .slice a2 n2 c2] X fun e w' => e = .returned (.bool true) ∧ Below X.heap.size X w'))
    (HEQ : Hid (∀ X, Below w.heap.size w X → Calls Try.prog 68 #[.slice a1 n1 c1, .slice a2 n2 c2] X fun e w' => e = .returned (.bool true) ∧ Below X.heap.size X w')) :
    Calls Try.prog 54 #[.pointer (some ⟨b, 0, none⟩), .int .i64 j, .slice ad dn cd, .slice al ln cl, .slice a1 n1 c1, .slice a2 n2 c2] w fun e w' => e = .returned (.int .i64 111) ∧ Below w.heap.size w w' := by
  have hB : Below w.heap.size w w := Below.refl _ _
  go_enter Try.func54, Try.ntmps54
  go_wp2_with fail
  refine hh.mono ?_
  rintro e wn ⟨rfl, hwn⟩
  rw [hwn]
  clear hwn hh
  go_wp2_with fail
  refine hcd.mono ?_
  rintro e wn ⟨rfl, hwn⟩
  rw [hwn]
  clear hwn hcd
  go_wp2_with fail
  refine hcw.mono ?_
  rintro e wn ⟨rfl, hwn⟩
  rw [hwn]
  clear hwn hcw
  go_wp2_with fail
  refine hf1.mono ?_
  rintro e w1 ⟨rfl, hb⟩
  have hB := hb
  clear hb hf1 k0 k1
  go_wp2_with fail
  refine (unhide HF2 _ hB).mono ?_
  rintro e w2 ⟨rfl, hb⟩
  have hB := bstep hB hb
  clear hb
  go_wp2_with fail
  refine (unhide HEQ _ hB).mono ?_
  rintro e w3 ⟨rfl, hb⟩
  have hB := bstep hB hb
  clear hb
  go_wp2
  go_ret
  exact ⟨by first | rfl | simp, hB⟩
set_option maxRecDepth 100000 in
set_option maxHeartbeats 4000000 in
theorem chk_h1 (w : World) (b : Nat) (j kk kind ZD ZW ED EW : Int) (ad : Option Addr) (dn cd : Nat) (al : Option Addr) (ln cl : Nat) (a1 : Option Addr) (n1 c1 : Nat) (a2 : Option Addr) (n2 c2 : Nat) (k0 : w.cell? ⟨b, 0, none⟩ = some (.int .i64 kind)) (k1 : w.cell? ⟨b, 1, none⟩ = some (.int .i64 kk))
    (hh : Calls Try.prog 60 #[.pointer (some ⟨b, 0, none⟩), .int .i64 j] w fun e w' => e = .returned (.bool true) ∧ w' = w)
    (hcd : Calls Try.prog 40 #[.slice ad dn cd, .int .i64 kk] w fun e w' => e = .returned (.tuple #[.int .i64 ZD, .int .i64 0]) ∧ w' = w)
    (hcw : Calls Try.prog 40 #[.slice al ln cl, .int .i64 kk] w fun e w' => e = .returned (.tuple #[.int .i64 ZW, .int .i64 0]) ∧ w' = w)
    (t3 : (kind == 2) = true) (t4 : ((dn : Int) == 0) = false)
    (hf1 : Calls Try.prog 44 #[.pointer (some ⟨b, 0, none⟩), .slice ad dn cd, .slice a1 n1 c1] w fun e w' => e = .returned (.bool true) ∧ Below w.heap.size w w')
    (HF2 : Hid (∀ X, Below w.heap.size w X → Calls Try.prog 44 #[.pointer (some ⟨b, 0, none⟩), .slice ad dn cd, .slice a2 n2 c2] X fun e w' => e = .returned (.bool true) ∧ Below X.heap.size X w'))
    (HEQ : Hid (∀ X, Below w.heap.size w X → Calls Try.prog 68 #[.slice a1 n1 c1, .slice a2 n2 c2] X fun e w' => e = .returned (.bool false) ∧ Below X.heap.size X w'))
    (HAC : Hid (∀ X, Below w.heap.size w X → Calls Try.prog 69 #[.pointer (some ⟨b, 0, none⟩), .slice al ln cl] X fun e w' => e = .returned (.bool true) ∧ Below X.heap.size X w')) :
    Calls Try.prog 54 #[.pointer (some ⟨b, 0, none⟩), .int .i64 j, .slice ad dn cd, .slice al ln cl, .slice a1 n1 c1, .slice a2 n2 c2] w fun e w' => e = .returned (.int .i64 21) ∧ Below w.heap.size w w' := by
  have hB : Below w.heap.size w w := Below.refl _ _
  go_enter Try.func54, Try.ntmps54
  go_wp2_with fail
  refine hh.mono ?_
  rintro e wn ⟨rfl, hwn⟩
  rw [hwn]
  clear hwn hh
  go_wp2_with fail
  refine hcd.mono ?_
  rintro e wn ⟨rfl, hwn⟩
  rw [hwn]
  clear hwn hcd
  go_wp2_with fail
  refine hcw.mono ?_
  rintro e wn ⟨rfl, hwn⟩
  rw [hwn]
  clear hwn hcw
  go_wp2_with fail
  refine hf1.mono ?_
  rintro e w1 ⟨rfl, hb⟩
  have hB := hb
  clear hb hf1 k0 k1
  go_wp2_with fail
  refine (unhide HF2 _ hB).mono ?_
  rintro e w2 ⟨rfl, hb⟩
  have hB := bstep hB hb
  clear hb
  go_wp2_with fail
  refine (unhide HEQ _ hB).mono ?_
  rintro e w3 ⟨rfl, hb⟩
  have hB := bstep hB hb
  clear hb
  go_wp2_with fail
  refine (unhide HAC _ hB).mono ?_
  rintro e w4 ⟨rfl, hb⟩
  have hB := bstep hB hb
  clear hb
  go_wp2
  go_ret
  exact ⟨by first | rfl | simp, hB⟩
set_option maxRecDepth 100000 in
set_option maxHeartbeats 4000000 in
theorem chk_i1 (w : World) (b : Nat) (j kk kind ZD ZW ED EW : Int) (ad : Option Addr) (dn cd : Nat) (al : Option Addr) (ln cl : Nat) (a1 : Option Addr) (n1 c1 : Nat) (a2 : Option Addr) (n2 c2 : Nat) (k0 : w.cell? ⟨b, 0, none⟩ = some (.int .i64 kind)) (k1 : w.cell? ⟨b, 1, none⟩ = some (.int .i64 kk))
    (hh : Calls Try.prog 60 #[.pointer (some ⟨b, 0, none⟩), .int .i64 j] w fun e w' => e = .returned (.bool true) ∧ w' = w)
    (hcd : Calls Try.prog 40 #[.slice ad dn cd, .int .i64 kk] w fun e w' => e = .returned (.tuple #[.int .i64 ZD, .int .i64 0]) ∧ w' = w)
    (hcw : Calls Try.prog 40 #[.slice al ln cl, .int .i64 kk] w fun e w' => e = .returned (.tuple #[.int .i64 ZW, .int .i64 0]) ∧ w' = w)
    (t3 : (kind == 2) = true) (t4 : ((dn : Int) == 0) = false)
    (hf1 : Calls Try.prog 44 #[.pointer (some ⟨b, 0, none⟩), .slice ad dn cd, .slice a1 n1 c1] w fun e w' => e = .returned (.bool true) ∧ Below w.heap.size w w')
    (HF2 : Hid (∀ X, Below w.heap.size w X → Calls Try.prog 44 #[.pointer (some ⟨b, 0, none⟩), .slice ad dn cd, .slice a2 n2 c2] X fun e w' => e = .returned (.bool true) ∧ Below X.heap.size X w'))
    (HEQ : Hid (∀ X, Below w.heap.size w X → Calls Try.prog 68 #[.slice a1 n1 c1, .slice a2 n2 c2] X fun e w' => e = .returned (.bool false) ∧ Below X.heap.size X w'))
    (HAC : Hid (∀ X, Below w.heap.size w X → Calls Try.prog 69 #[.pointer (some ⟨b, 0, none⟩), .slice al ln cl] X fun e w' => e = .returned (.bool false) ∧ Below X.heap.size X w'))
    (HFU : Hid (∀ X, Below w.heap.size w X → Calls Try.prog 47 #[.pointer (some ⟨b, 0, none⟩)] X fun e w' => e = .returned (.bool true) ∧ w' = X)) :
    Calls Try.prog 54 #[.pointer (some ⟨b, 0, none⟩), .int .i64 j, .slice ad dn cd, .slice al ln cl, .slice a1 n1 c1, .slice a2 n2 c2] w fun e w' => e = .returned (.int .i64 3) ∧ Below w.heap.size w w' := by
  have hB : Below w.heap.size w w := Below.refl _ _
  go_enter Try.func54, Try.ntmps54
  go_wp2_with fail
  refine hh.mono ?_
  rintro e wn ⟨rfl, hwn⟩
  rw [hwn]
  clear hwn hh
  go_wp2_with fail
  refine hcd.mono ?_
  rintro e wn ⟨rfl, hwn⟩
  rw [hwn]
  clear hwn hcd
  go_wp2_with fail
  refine hcw.mono ?_
  rintro e wn ⟨rfl, hwn⟩
  rw [hwn]
  clear hwn hcw
  go_wp2_with fail
  refine hf1.mono ?_
  rintro e w1 ⟨rfl, hb⟩
  have hB := hb
  clear hb hf1 k0 k1
  go_wp2_with fail
  refine (unhide HF2 _ hB).mono ?_
  rintro e w2 ⟨rfl, hb⟩
  have hB := bstep hB hb
  clear hb
  go_wp2_with fail
  refine (unhide HEQ _ hB).mono ?_
  rintro e w3 ⟨rfl, hb⟩
  have hB := bstep hB hb
  clear hb
  go_wp2_with fail
  refine (unhide HAC _ hB).mono ?_
  rintro e w4 ⟨rfl, hb⟩
  have hB := bstep hB hb
  clear hb
  go_wp2_with fail
  refine (unhide HFU _ hB).mono ?_
  rintro e wn ⟨rfl, hwn⟩
  subst hwn
  go_wp2
  go_ret
  exact ⟨by first | rfl | simp, hB⟩
set_option maxRecDepth 100000 in
set_option maxHeartbeats 4000000 in
theorem chk_j1 (w : World) (b : Nat) (j kk kind ZD ZW ED EW : Int) (ad : Option Addr) (dn cd : Nat) (al : Option Addr) (ln cl : Nat) (a1 : Option Addr) (n1 c1 : Nat) (a2 : Option Addr) (n2 c2 : Nat) (k0 : w.cell? ⟨b, 0, none⟩ = some (.int .i64 kind)) (k1 : w.cell? ⟨b, 1, none⟩ = some (.int .i64 kk))
    (hh : Calls Try.prog 60 #[.pointer (some ⟨b, 0, none⟩), .int .i64 j] w fun e w' => e = .returned (.bool true) ∧ w' = w)
    (hcd : Calls Try.prog 40 #[.slice ad dn cd, .int .i64 kk] w fun e w' => e = .returned (.tuple #[.int .i64 ZD, .int .i64 0]) ∧ w' = w)
    (hcw : Calls Try.prog 40 #[.slice al ln cl, .int .i64 kk] w fun e w' => e = .returned (.tuple #[.int .i64 ZW, .int .i64 0]) ∧ w' = w)
    (t3 : (kind == 2) = true) (t4 : ((dn : Int) == 0) = false)
    (hf1 : Calls Try.prog 44 #[.pointer (some ⟨b, 0, none⟩), .slice ad dn cd, .slice a1 n1 c1] w fun e w' => e = .returned (.bool true) ∧ Below w.heap.size w w')
    (HF2 : Hid (∀ X, Below w.heap.size w X → Calls Try.prog 44 #[.pointer (some ⟨b, 0, none⟩), .slice ad dn cd, .slice a2 n2 c2] X fun e w' => e = .returned (.bool true) ∧ Below X.heap.size X w'))
    (HEQ : Hid (∀ X, Below w.heap.size w X → Calls Try.prog 68 #[.slice a1 n1 c1, .slice a2 n2 c2] X fun e w' => e = .returned (.bool false) ∧ Below X.heap.size X w'))
    (HAC : Hid (∀ X, Below w.heap.size w X → Calls Try.prog 69 #[.pointer (some ⟨b, 0, none⟩), .slice al ln cl] X fun e w' => e = .returned (.bool false) ∧ Below X.heap.size X w'))
    (HFU : Hid (∀ X, Below w.heap.size w X → Calls Try.prog 47 #[.pointer (some ⟨b, 0, none⟩)] X fun e w' => e = .returned (.bool false) ∧ w' = X)) :
    Calls Try.prog 54 #[.pointer (some ⟨b, 0, none⟩), .int .i64 j, .slice ad dn cd, .slice al ln cl, .slice a1 n1 c1, .slice a2 n2 c2] w fun e w' => e = .returned (.int .i64 0) ∧ Below w.heap.size w w' := by
  have hB : Below w.heap.size w w := Below.refl _ _
  go_enter Try.func54, Try.ntmps54
  go_wp2_with fail
  refine hh.mono ?_
  rintro e wn ⟨rfl, hwn⟩
  rw [hwn]
  clear hwn hh
  go_wp2_with fail
  refine hcd.mono ?_
  rintro e wn ⟨rfl, hwn⟩
  rw [hwn]
  clear hwn hcd
  go_wp2_with fail
  refine hcw.mono ?_
  rintro e wn ⟨rfl, hwn⟩
  rw [hwn]
  clear hwn hcw
  go_wp2_with fail
  refine hf1.mono ?_
  rintro e w1 ⟨rfl, hb⟩
  have hB := hb
  clear hb hf1 k0 k1
  go_wp2_with fail
  refine (unhide HF2 _ hB).mono ?_
  rintro e w2 ⟨rfl, hb⟩
  have hB := bstep hB hb
  clear hb
  go_wp2_with fail
  refine (unhide HEQ _ hB).mono ?_
  rintro e w3 ⟨rfl, hb⟩
  have hB := bstep hB hb
  clear hb
  go_wp2_with fail
  refine (unhide HAC _ hB).mono ?_
  rintro e w4 ⟨rfl, hb⟩
  have hB := bstep hB hb
  clear hb
  go_wp2_with fail
  refine (unhide HFU _ hB).mono ?_
  rintro e wn ⟨rfl, hwn⟩
  subst hwn
  go_wp2
  go_ret
  exact ⟨by first | rfl | simp, hB⟩
set_option maxRecDepth 100000 in
set_option maxHeartbeats 4000000 in
theorem chk_e2 (w : World) (b : Nat) (j kk kind ZD ZW ED EW : Int) (ad : Option Addr) (dn cd : Nat) (al : Option Addr) (ln cl : Nat) (a1 : Option Addr) (n1 c1 : Nat) (a2 : Option Addr) (n2 c2 : Nat) (k0 : w.cell? ⟨b, 0, none⟩ = some (.int .i64 kind)) (k1 : w.cell? ⟨b, 1, none⟩ = some (.int .i64 kk))
    (hh : Calls Try.prog 60 #[.pointer (some ⟨b, 0, none⟩), .int .i64 j] w fun e w' => e = .returned (.bool true) ∧ w' = w)
    (hcd : Calls Try.prog 40 #[.slice ad dn cd, .int .i64 kk] w fun e w' => e = .returned (.tuple #[.int .i64 ZD, .int .i64 0]) ∧ w' = w)
    (hcw : Calls Try.prog 40 #[.slice al ln cl, .int .i64 kk] w fun e w' => e = .returned (.tuple #[.int .i64 ZW, .int .i64 0]) ∧ w' = w)
    (t3 : (kind == 2) = false)
    (hf1 : Calls Try.prog 44 #[.pointer (some ⟨b, 0, none⟩), .slice ad dn cd, .slice a1 n1 c1] w fun e w' => e = .returned (.bool false) ∧ Below w.heap.size w w') :
    Calls Try.prog 54 #[.pointer (some ⟨b, 0, none⟩), .int .i64 j, .slice ad dn cd, .slice al ln cl, .slice a1 n1 c1, .slice a2 n2 c2] w fun e w' => e = .returned (.int .i64 100) ∧ Below w.heap.size w w' := by
  have hB : Below w.heap.size w w := Below.refl _ _
  go_enter Try.func54, Try.ntmps54
  go_wp2_with fail
  refine hh.mono ?_
  rintro e wn ⟨rfl, hwn⟩
  rw [hwn]
  clear hwn hh
  go_wp2_with fail
  refine hcd.mono ?_
  rintro e wn ⟨rfl, hwn⟩
  rw [hwn]
  clear hwn hcd
  go_wp2_with fail
  refine hcw.mono ?_
  rintro e wn ⟨rfl, hwn⟩
  rw [hwn]
  clear hwn hcw
  go_wp2_with fail
  refine hf1.mono ?_
  rintro e w1 ⟨rfl, hb⟩
  have hB := hb
  clear hb hf1 k0 k1
  go_wp2
  go_ret
  exact ⟨by first | rfl | simp, hB⟩
set_option maxRecDepth 100000 in
set_option maxHeartbeats 4000000 in
theorem chk_f2 (w : World) (b : Nat) (j kk kind ZD ZW ED EW : Int) (ad : Option Addr) (dn cd : Nat) (al : Option Addr) (ln cl : Nat) (a1 : Option Addr) (n1 c1 : Nat) (a2 : Option Addr) (n2 c2 : Nat) (k0 : w.cell? ⟨b, 0, none⟩ = some (.int .i64 kind)) (k1 : w.cell? ⟨b, 1, none⟩ = some (.int .i64 kk))
    (hh : Calls Try.prog 60 #[.pointer (some ⟨b, 0, none⟩), .int .i64 j] w fun e w' => e = .returned (.bool true) ∧ w' = w)
    (hcd : Calls Try.prog 40 #[.slice ad dn cd, .int .i64 kk] w fun e w' => e = .returned (.tuple #[.int .i64 ZD, .int .i64 0]) ∧ w' = w)
    (hcw : Calls Try.prog 40 #[.slice al ln cl, .int .i64 kk] w fun e w' => e = .returned (.tuple #[.int .i64 ZW, .int .i64 0]) ∧ w' = w)
    (t3 : (kind == 2) = false)
    (hf1 : Calls Try.prog 44 #[.pointer (some ⟨b, 0, none⟩), .slice ad dn cd, .slice a1 n1 c1] w fun e w' => e = .returned (.bool true) ∧ Below w.heap.size w w')
    (HF2 : Hid (∀ X, Below w.heap.size w X → Calls Try.prog 44 #[.pointer (some ⟨b, 0, none⟩), .slice ad dn cd, .slice a2 n2 c2] X fun e w' => e = .returned (.bool false) ∧ Below X.heap.size X w')) :
    Calls Try.prog 54 #[.pointer (some ⟨b, 0, none⟩), .int .i64 j, .slice ad dn cd, .slice al ln cl, .slice a1 n1 c1, .slice a2 n2 c2] w fun e w' => e = .returned (.int .i64 100) ∧ Below w.heap.size w w' := by
  have hB : Below w.heap.size w w := Below.refl _ _
  go_enter Try.func54, Try.ntmps54
  go_wp2_with fail
  refine hh.mono ?_
  rintro e wn ⟨rfl, hwn⟩
  rw [hwn]
  clear hwn hh
  go_wp2_with fail
  refine hcd.mono ?_
  rintro e wn ⟨rfl, hwn⟩
  rw [hwn]
  clear hwn hcd
  go_wp2_with fail
  refine hcw.mono ?_
  rintro e wn ⟨rfl, hwn⟩
  rw [hwn]
  clear hwn hcw
  go_wp2_with fail
  refine hf1.mono ?_
  rintro e w1 ⟨rfl, hb⟩
  have hB := hb
  clear hb hf1 k0 k1
  go_wp2_with fail
  refine (unhide HF2 _ hB).mono ?_
  rintro e w2 ⟨rfl, hb⟩
  have hB := bstep hB hb
  clear hb
  go_wp2
  go_ret
  exact ⟨by first | rfl | simp, hB⟩
set_option maxRecDepth 100000 in
set_option maxHeartbeats 4000000 in
theorem chk_g2 (w : World) (b : Nat) (j kk kind ZD ZW ED EW : Int) (ad : Option Addr) (dn cd : Nat) (al : Option Addr) (ln cl : Nat) (a1 : Option Addr) (n1 c1 : Nat) (a2 : Option Addr) (n2 c2 : Nat) (k0 : w.cell? ⟨b, 0, none⟩ = some (.int .i64 kind)) (k1 : w.cell? ⟨b, 1, none⟩ = some (.int .i64 kk))
    (hh : Calls Try.prog 60 #[.pointer (some ⟨b, 0, none⟩), .int .i64 j] w fun e w' => e = .returned (.bool true) ∧ w' = w)
    (hcd : Calls Try.prog 40 #[.slice ad dn cd, .int .i64 kk] w fun e w' => e = .returned (.tuple #[.int .i64 ZD, .int .i64 0]) ∧ w' = w)
    (hcw : Calls Try.prog 40 #[.slice al ln cl, .int .i64 kk] w fun e w' => e = .returned (.tuple #[.int .i64 ZW, .int .i64 0]) ∧ w' = w)
    (t3 : (kind == 2) = false)
    (hf1 : Calls Try.prog 44 #[.pointer (some ⟨b, 0, none⟩), .slice ad dn cd, .slice a1 n1 c1] w fun e w' => e = .returned (.bool true) ∧ Below w.heap.size w w')
    (HF2 : Hid (∀ X, Below w.heap.size w X → Calls Try.prog 44 #[.pointer (some ⟨b, 0, none⟩), .slice ad dn cd, .slice a2 n2 c2] X fun e w' => e = .returned (.bool true) ∧ Below X.heap.size X w'))
    (HEQ : Hid (∀ X, Below w.heap.size w X → Calls Try.prog 68 #[.slice a1 n1 c1, .slice a2 n2 c2] X fun e w' => e = .returned (.bool true) ∧ Below X.heap.size X w')) :
    Calls Try.prog 54 #[.pointer (some ⟨b, 0, none⟩), .int .i64 j, .slice ad dn cd, .slice al ln cl, .slice a1 n1 c1, .slice a2 n2 c2] w fun e w' => e = .returned (.int .i64 111) ∧ Below w.heap.size w w' := by
  have hB : Below w.heap.size w w := Below.refl _ _
  go_enter Try.func54, Try.ntmps54
  go_wp2_with fail
  refine hh.mono ?_
  rintro e wn ⟨rfl, hwn⟩
  rw [hwn]
  clear hwn hh
  go_wp2_with fail
  refine hcd.mono ?_
  rintro e wn ⟨rfl, hwn⟩
  rw [hwn]
  clear hwn hcd
  go_wp2_with fail
  refine hcw.mono ?_
  rintro e wn ⟨rfl, hwn⟩
  rw [hwn]
  clear hwn hcw
  go_wp2_with fail
  refine hf1.mono ?_
  rintro e w1 ⟨rfl, hb⟩
  have hB := hb
  clear hb hf1 k0 k1
  go_wp2_with fail
  refine (unhide HF2 _ hB).mono ?_
  rintro e w2 ⟨rfl, hb⟩
  have hB := bstep hB hb
  clear hb
  go_wp2_with fail
  refine (unhide HEQ _ hB).mono ?_
  rintro e w3 ⟨rfl, hb⟩
  have hB := bstep hB hb
  clear hb
  go_wp2
  go_ret
  exact ⟨by first | rfl | simp, hB⟩
set_option maxRecDepth 100000 in
set_option maxHeartbeats 4000000 in
theorem chk_h2 (w : World) (b : Nat) (j kk kind ZD ZW ED EW : Int) (ad : Option Addr) (dn cd : Nat) (al : Option Addr) (ln cl : Nat) (a1 : Option Addr) (n1 c1 : Nat) (a2 : Option Addr) (n2 c2 : Nat) (k0 : w.cell? ⟨b, 0, none⟩ = some (.int .i64 kind)) (k1 : w.cell? ⟨b, 1, none⟩ = some (.int .i64 kk))
    (hh : Calls Try.prog 60 #[.pointer (some ⟨b, 0, none⟩), .int .i64 j] w fun e w' => e = .returned (.bool true) ∧ w' = w)
    (hcd : Calls Try.prog 40 #[.slice ad dn cd, .int .i64 kk] w fun e w' => e = .returned (.tuple #[.int .i64 ZD, .int .i64 0]) ∧ w' = w)
    (hcw : Calls Try.prog 40 #[.slice al ln cl, .int .i64 kk] w fun e w' => e = .returned (.tuple #[.int .i64 ZW, .int .i64 0]) ∧ w' = w)
    (t3 : (kind == 2) = false)
    (hf1 : Calls Try.prog 44 #[.pointer (some ⟨b, 0, none⟩), .slice ad dn cd, .slice a1 n1 c1] w fun e w' => e = .returned (.bool true) ∧ Below w.heap.size w w')
    (HF2 : Hid (∀ X, Below w.heap.size w X → Calls Try.prog 44 #[.pointer (some ⟨b, 0, none⟩), .slice ad dn cd, .slice a2 n2 c2] X fun e w' => e = .returned (.bool true) ∧ Below X.heap.size X w'))
    (HEQ : Hid (∀ X, Below w.heap.size w X → Calls Try.prog 68 #[.slice a1 n1 c1, .slice a2 n2 c2] X fun e w' => e = .returned (.bool false) ∧ Below X.heap.size X w'))
    (HAC : Hid (∀ X, Below w.heap.size w X → Calls Try.prog 69 #[.pointer (some ⟨b, 0, none⟩), .slice al ln cl] X fun e w' => e = .returned (.bool true) ∧ Below X.heap.size X w')) :
    Calls Try.prog 54 #[.pointer (some ⟨b, 0, none⟩), .int .i64 j, .slice ad dn cd, .slice al ln cl, .slice a1 n1 c1, .slice a2 n2 c2] w fun e w' => e = .returned (.int .i64 21) ∧ Below w.heap.size w w' := by
  have hB : Below w.heap.size w w := Below.refl _ _
  go_enter Try.func54, Try.ntmps54
  go_wp2_with fail
  refine hh.mono ?_
  rintro e wn ⟨rfl, hwn⟩
  rw [hwn]
  clear hwn hh
  go_wp2_with fail
  refine hcd.mono ?_
  rintro e wn ⟨rfl, hwn⟩
  rw [hwn]
  clear hwn hcd
  go_wp2_with fail
  refine hcw.mono ?_
  rintro e wn ⟨rfl, hwn⟩
  rw [hwn]
  clear hwn hcw
  go_wp2_with fail
  refine hf1.mono ?_
  rintro e w1 ⟨rfl, hb⟩
  have hB := hb
  clear hb hf1 k0 k1
  go_wp2_with fail
  refine (unhide HF2 _ hB).mono ?_
  rintro e w2 ⟨rfl, hb⟩
  have hB := bstep hB hb
  clear hb
  go_wp2_with fail
  refine (unhide HEQ _ hB).mono ?_
  rintro e w3 ⟨rfl, hb⟩
  have hB := bstep hB hb
  clear hb
  go_wp2_with fail
  refine (unhide HAC _ hB).mono ?_
  rintro e w4 ⟨rfl, hb⟩
  have hB := bstep hB hb
  clear hb
  go_wp2
  go_ret
  exact ⟨by first | rfl | simp, hB⟩
set_option maxRecDepth 100000 in
set_option maxHeartbeats 4000000 in
theorem chk_i2 (w : World) (b : Nat) (j kk kind ZD ZW ED EW : Int) (ad : Option Addr) (dn cd : Nat) (al : Option Addr) (ln cl : Nat) (a1 : Option Addr) (n1 c1 : Nat) (a2 : Option Addr) (n2 c2 : Nat) (k0 : w.cell? ⟨b, 0, none⟩ = some (.int .i64 kind)) (k1 : w.cell? ⟨b, 1, none⟩ = some (.int .i64 kk))
    (hh : Calls Try.prog 60 #[.pointer (some ⟨b, 0, none⟩), .int .i64 j] w fun e w' => e = .returned (.bool true) ∧ w' = w)
    (hcd : Calls Try.prog 40 #[.slice ad dn cd, .int .i64 kk] w fun e w' => e = .returned (.tuple #[.int .i64 ZD, .int .i64 0]) ∧ w' = w)
    (hcw : Calls Try.prog 40 #[.slice al ln cl, .int .i64 kk] w fun e w' => e = .returned (.tuple #[.int .i64 ZW, .int .i64 0]) ∧ w' = w)
    (t3 : (kind == 2) = false)
    (hf1 : Calls Try.prog 44 #[.pointer (some ⟨b, 0, none⟩), .slice ad dn cd, .slice a1 n1 c1] w fun e w' => e = .returned (.bool true) ∧ Below w.heap.size w w')
    (HF2 : Hid (∀ X, Below w.heap.size w X → Calls Try.prog 44 #[.pointer (some ⟨b, 0, none⟩), .slice ad dn cd, .slice a2 n2 c2] X fun e w' => e = .returned (.bool true) ∧ Below X.heap.size X w'))
    (HEQ : Hid (∀ X, Below w.heap.size w X → Calls Try.prog 68 #[.slice a1 n1 c1, .slice a2 n2 c2] X fun e w' => e = .returned (.bool false) ∧ Below X.heap.size X w'))
    (HAC : Hid (∀ X, Below w.heap.size w X → Calls Try.prog 69 #[.pointer (some ⟨b, 0, none⟩), .slice al ln cl] X fun e w' => e = .returned (.bool false) ∧ Below X.heap.size X w'))
    (HFU : Hid (∀ X, Below w.heap.size w X → Calls Try.prog 47 #[.pointer (some ⟨b, 0, none⟩)] X fun e w' => e = .returned (.bool true) ∧ w' = X)) :
    Calls Try.prog 54 #[.pointer (some ⟨b, 0, none⟩), .int .i64 j, .slice ad dn cd, .slice al ln cl, .slice a1 n1 c1, .slice a2 n2 c2] w fun e w' => e = .returned (.int .i64 3) ∧ Below w.heap.size w w' := by
  have hB : Below w.heap.size w w := Below.refl _ _
  go_enter Try.func54, Try.ntmps54
  go_wp2_with fail
  refine hh.mono ?_
  rintro e wn ⟨rfl, hwn⟩
  rw [hwn]
  clear hwn hh
  go_wp2_with fail
  refine hcd.mono ?_
  rintro e wn ⟨rfl, hwn⟩
  rw [hwn]
  clear hwn hcd
  go_wp2_with fail
  refine hcw.mono ?_
  rintro e wn ⟨rfl, hwn⟩
  rw [hwn]
  clear hwn hcw
  go_wp2_with fail
  refine hf1.mono ?_
  rintro e w1 ⟨rfl, hb⟩
  have hB := hb
  clear hb hf1 k0 k1
  go_wp2_with fail
  refine (unhide HF2 _ hB).mono ?_
  rintro e w2 ⟨rfl, hb⟩
  have hB := bstep hB hb
  clear hb
  go_wp2_with fail
  refine (unhide HEQ _ hB).mono ?_
  rintro e w3 ⟨rfl, hb⟩
  have hB := bstep hB hb
  clear hb
  go_wp2_with fail
  refine (unhide HAC _ hB).mono ?_
  rintro e w4 ⟨rfl, hb⟩
  have hB := bstep hB hb
  clear hb
  go_wp2_with fail
  refine (unhide HFU _ hB).mono ?_
  rintro e wn ⟨rfl, hwn⟩
  subst hwn
  go_wp2
  go_ret
  exact ⟨by first | rfl | simp, hB⟩
set_option maxRecDepth 100000 in
set_option maxHeartbeats 4000000 in
theorem chk_j2 (w : World) (b : Nat) (j kk kind ZD ZW ED EW : Int) (ad : Option Addr) (dn cd : Nat) (al : Option Addr) (ln cl : Nat) (a1 : Option Addr) (n1 c1 : Nat) (a2 : Option Addr) (n2 c2 : Nat) (k0 : w.cell? ⟨b, 0, none⟩ = some (.int .i64 kind)) (k1 : w.cell? ⟨b, 1, none⟩ = some (.int .i64 kk))
    (hh : Calls Try.prog 60 #[.pointer (some ⟨b, 0, none⟩), .int .i64 j] w fun e w' => e = .returned (.bool true) ∧ w' = w)
    (hcd : Calls Try.prog 40 #[.slice ad dn cd, .int .i64 kk] w fun e w' => e = .returned (.tuple #[.int .i64 ZD, .int .i64 0]) ∧ w' = w)
    (hcw : Calls Try.prog 40 #[.slice al ln cl, .int .i64 kk] w fun e w' => e = .returned (.tuple #[.int .i64 ZW, .int .i64 0]) ∧ w' = w)
    (t3 : (kind == 2) = false)
    (hf1 : Calls Try.prog 44 #[.pointer (some ⟨b, 0, none⟩), .slice ad dn cd, .slice a1 n1 c1] w fun e w' => e = .returned (.bool true) ∧ Below w.heap.size w w')
    (HF2 : Hid (∀ X, Below w.heap.size w X → Calls Try.prog 44 #[.pointer (some ⟨b, 0, none⟩), .slice ad dn cd, .slice a2 n2 c2] X fun e w' => e = .returned (.bool true) ∧ Below X.heap.size X w'))
    (HEQ : Hid (∀ X, Below w.heap.size w X → Calls Try.prog 68 #[.slice a1 n1 c1, .slice a2 n2 c2] X fun e w' => e = .returned (.bool false) ∧ Below X.heap.size X w'))
    (HAC : Hid (∀ X, Below w.heap.size w X → Calls Try.prog 69 #[.pointer (some ⟨b, 0, none⟩), .slice al ln cl] X fun e w' => e = .returned (.bool false) ∧ Below X.heap.size X w'))
    (HFU : Hid (∀ X, Below w.heap.size w X → Calls Try.prog 47 #[.pointer (some ⟨b, 0, none⟩)] X fun e w' => e = .returned (.bool false) ∧ w' = X)) :
    Calls Try.prog 54 #[.pointer (some ⟨b, 0, none⟩), .int .i64 j, .slice ad dn cd, .slice al ln cl, .slice a1 n1 c1, .slice a2 n2 c2] w fun e w' => e = .returned (.int .i64 0) ∧ Below w.heap.size w w' := by
  have hB : Below w.heap.size w w := Below.refl _ _
  go_enter Try.func54, Try.ntmps54
  go_wp2_with fail
  refine hh.mono ?_
  rintro e wn ⟨rfl, hwn⟩
  rw [hwn]
  clear hwn hh
  go_wp2_with fail
  refine hcd.mono ?_
  rintro e wn ⟨rfl, hwn⟩
  rw [hwn]
  clear hwn hcd
  go_wp2_with fail
  refine hcw.mono ?_
  rintro e wn ⟨rfl, hwn⟩
  rw [hwn]
  clear hwn hcw
  go_wp2_with fail
  refine hf1.mono ?_
  rintro e w1 ⟨rfl, hb⟩
  have hB := hb
  clear hb hf1 k0 k1
  go_wp2_with fail
  refine (unhide HF2 _ hB).mono ?_
  rintro e w2 ⟨rfl, hb⟩
  have hB := bstep hB hb
  clear hb
  go_wp2_with fail
  refine (unhide HEQ _ hB).mono ?_
  rintro e w3 ⟨rfl, hb⟩
  have hB := bstep hB hb
  clear hb
  go_wp2_with fail
  refine (unhide HAC _ hB).mono ?_
  rintro e w4 ⟨rfl, hb⟩
  have hB := bstep hB hb
  clear hb
  go_wp2_with fail
  refine (unhide HFU _ hB).mono ?_
  rintro e wn ⟨rfl, hwn⟩
  subst hwn
  go_wp2
  go_ret
  exact ⟨by first | rfl | simp, hB⟩
section
variable {B : Nat} {w w' : World} {p : Tp} {s : Tr}
set_option maxHeartbeats 1000000 in
theorem checkSplit_any (h : TM B w p s) (W : s.Wf) (j : Int) (ad : Option Addr) (cd : Nat) (d : List Int) (aw : Option Addr) (cw : Nat) (l : List Int) (a1 : Option Addr) (c1 : Nat) (was : List Int) (a2 : Option Addr) (c2 : Nat) (now : List Int)
    (rd : RdL .i64 w ad d) (rw' : RdL .i64 w aw l) (r1 : RdL .i64 w a1 was) (r2 : RdL .i64 w a2 now) (ld : d.length ≤ maxLen) (lw : l.length ≤ maxLen) (l1 : was.length ≤ maxLen) (l2 : now.length ≤ maxLen) :
    Calls Try.prog 54 #[.pointer (some ⟨p.b, 0, none⟩), .int .i64 j, .slice ad d.length cd, .slice aw l.length cw, .slice a1 was.length c1, .slice a2 now.length c2] w fun e w' => e = .returned (.int .i64 (s.splE j d l was now)) ∧ Below w.heap.size w w' := by
  have hh := has_any h j
  have hcd := check_any ad d.length cd (fun i => d.getD i 0) s.k w rd.rd ld
  have hcw := check_any aw l.length cw (fun i => l.getD i 0) s.k w rw'.rd lw
  have hf1 := rfits_any ad cd d a1 c1 was h r1 l1
  have HF2 := hide fun (X : World) (hX : Below w.heap.size w X) => rfits_any ad cd d a2 c2 now (h.below hX) (r2.below hX) l2
  have HEQ := hide fun (X : World) (hX : Below w.heap.size w X) => equal_any a1 a2 c1 c2 was now X (r1.below hX) (r2.below hX) l1
  have HAC := hide fun (X : World) (hX : Below w.heap.size w X) => isAccess_any (h.below hX) W aw cw l (rw'.below hX)
  have HFU := hide fun (X : World) (hX : Below w.heap.size w X) => isFull_any (h.below hX)
  have k0 := h.c0
  have k1 := h.c1
  have ed : wdE d s.k = (chkV d.length (fun i => d.getD i 0) s.k).2 := rfl
  have ew : wdE l s.k = (chkV l.length (fun i => l.getD i 0) s.k).2 := rfl
  unfold Tr.splE
  rw [ed, ew]
  by_cases q0 : 0 ≤ j ∧ j < (s.nl : Int)
  rotate_left
  · rw [decide_eq_false q0] at hh
    rw [if_pos q0]
    exact chk_a w p.b j s.k s.kind 0 0 0 0 _ _ _ _ _ _ _ _ _ _ _ _ k0 k1 hh
  rw [decide_eq_true q0] at hh
  rw [if_neg (fun q => q q0)]
  by_cases q1 : (chkV d.length (fun i => d.getD i 0) s.k).2 = 0
  rotate_left
  · rw [if_pos q1]
    exact chk_b w p.b j s.k s.kind _ 0 _ 0 _ _ _ _ _ _ _ _ _ _ _ _ k0 k1 hh hcd (by simpa using q1)
  rw [q1] at hcd
  rw [if_neg (fun q => q q1)]
  by_cases q2 : (chkV l.length (fun i => l.getD i 0) s.k).2 = 0
  rotate_left
  · rw [if_pos q2]
    exact chk_c w p.b j s.k s.kind _ _ 0 _ _ _ _ _ _ _ _ _ _ _ _ _ k0 k1 hh hcd hcw (by simpa using q2)
  rw [q2] at hcw
  rw [if_neg (fun q => q q2)]
  by_cases q3 : s.kind = 2 ∧ d.length = 0
  · rw [if_pos q3]
    exact chk_d w p.b j s.k s.kind _ _ 0 0 _ _ _ _ _ _ _ _ _ _ _ _ k0 k1 hh hcd hcw (by simp [q3.1]) (by simp [q3.2])
  rw [if_neg q3]
  by_cases q4 : fitR s d was = 0
  rotate_left
  · rw [show (fitR s d was == 0) = false from beq_eq_false_iff_ne.2 q4] at hf1
    rw [if_pos (.inl q4)]
    by_cases q9 : s.kind = 2
    · exact chk_e1 w p.b j s.k s.kind _ _ 0 0 _ _ _ _ _ _ _ _ _ _ _ _ k0 k1 hh hcd hcw (by simp [q9]) (by rw [beq_eq_false_iff_ne]; intro e; exact q3 ⟨q9, by omega⟩) hf1
    · exact chk_e2 w p.b j s.k s.kind _ _ 0 0 _ _ _ _ _ _ _ _ _ _ _ _ k0 k1 hh hcd hcw (by simp [q9]) hf1
  rw [show (fitR s d was == 0) = true from by rw [q4]; rfl] at hf1
  by_cases q5 : fitR s d now = 0
  rotate_left
  · rw [show (fitR s d now == 0) = false from beq_eq_false_iff_ne.2 q5] at HF2
    rw [if_pos (.inr q5)]
    by_cases q9 : s.kind = 2
    · exact chk_f1 w p.b j s.k s.kind _ _ 0 0 _ _ _ _ _ _ _ _ _ _ _ _ k0 k1 hh hcd hcw (by simp [q9]) (by rw [beq_eq_false_iff_ne]; intro e; exact q3 ⟨q9, by omega⟩) hf1 HF2
    · exact chk_f2 w p.b j s.k s.kind _ _ 0 0 _ _ _ _ _ _ _ _ _ _ _ _ k0 k1 hh hcd hcw (by simp [q9]) hf1 HF2
  rw [show (fitR s d now == 0) = true from by rw [q5]; rfl] at HF2
  rw [if_neg (by simp [q4, q5])]
  by_cases q6 : was = now
  · rw [decide_eq_true q6] at HEQ
    rw [if_pos q6]
    by_cases q9 : s.kind = 2
    · exact chk_g1 w p.b j s.k s.kind _ _ 0 0 _ _ _ _ _ _ _ _ _ _ _ _ k0 k1 hh hcd hcw (by simp [q9]) (by rw [beq_eq_false_iff_ne]; intro e; exact q3 ⟨q9, by omega⟩) hf1 HF2 HEQ
    · exact chk_g2 w p.b j s.k s.kind _ _ 0 0 _ _ _ _ _ _ _ _ _ _ _ _ k0 k1 hh hcd hcw (by simp [q9]) hf1 HF2 HEQ
  rw [decide_eq_false q6] at HEQ
  rw [if_neg q6]
  by_cases q7 : ∃ i, i < s.nl ∧ (s.lf i).ac = l
  · rw [decide_eq_true q7] at HAC
    rw [if_pos q7]
    by_cases q9 : s.kind = 2
    · exact chk_h1 w p.b j s.k s.kind _ _ 0 0 _ _ _ _ _ _ _ _ _ _ _ _ k0 k1 hh hcd hcw (by simp [q9]) (by rw [beq_eq_false_iff_ne]; intro e; exact q3 ⟨q9, by omega⟩) hf1 HF2 HEQ HAC
    · exact chk_h2 w p.b j s.k s.kind _ _ 0 0 _ _ _ _ _ _ _ _ _ _ _ _ k0 k1 hh hcd hcw (by simp [q9]) hf1 HF2 HEQ HAC
  rw [decide_eq_false q7] at HAC
  rw [if_neg q7]
  by_cases q8 : s.nl = 1024
  · rw [decide_eq_true q8] at HFU
    rw [if_pos q8]
    by_cases q9 : s.kind = 2
    · exact chk_i1 w p.b j s.k s.kind _ _ 0 0 _ _ _ _ _ _ _ _ _ _ _ _ k0 k1 hh hcd hcw (by simp [q9]) (by rw [beq_eq_false_iff_ne]; intro e; exact q3 ⟨q9, by omega⟩) hf1 HF2 HEQ HAC HFU
    · exact chk_i2 w p.b j s.k s.kind _ _ 0 0 _ _ _ _ _ _ _ _ _ _ _ _ k0 k1 hh hcd hcw (by simp [q9]) hf1 HF2 HEQ HAC HFU
  · rw [decide_eq_false q8] at HFU
    rw [if_neg q8]
    by_cases q9 : s.kind = 2
    · exact chk_j1 w p.b j s.k s.kind _ _ 0 0 _ _ _ _ _ _ _ _ _ _ _ _ k0 k1 hh hcd hcw (by simp [q9]) (by rw [beq_eq_false_iff_ne]; intro e; exact q3 ⟨q9, by omega⟩) hf1 HF2 HEQ HAC HFU
    · exact chk_j2 w p.b j s.k s.kind _ _ 0 0 _ _ _ _ _ _ _ _ _ _ _ _ k0 k1 hh hcd hcw (by simp [q9]) hf1 HF2 HEQ HAC HFU
end

end Go.Proofs.Ytlcablkhomnieaa
