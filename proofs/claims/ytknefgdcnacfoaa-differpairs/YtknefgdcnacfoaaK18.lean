/-
  Some texts of this seat, one behind the other.
-/
import Derived.Test.YtknefgdcnacfoaaK17
/-
  What the reference's Has and Pairs return.
-/
namespace Go.Proofs.Ytknefgdcnacfoaa
open Go.RowKit

theorem LLs.at {w : World} {B : Nat} {v : Value} {us : Nat → Value} {V : List (List Int)} (h : LLs w B v us V) {i : Nat} (hi : i < V.length) :
    ∃ g c a ci, v = .slice (some ⟨g, 0, none⟩) V.length c ∧ w.cell? ⟨g, i, none⟩ = some (.slice a (V.getD i []).length ci) ∧ RdL .i64 w a (V.getD i []) ∧ (V.getD i []).length ≤ maxLen := by
  obtain ⟨g, c, e, -, -, -, -, hc, -⟩ := h.out.pos (by omega)
  have ho : OwnL .i64 3 w B (us i) (V.getD i []) := list_of_own (h.fam.own i hi)
  obtain ⟨a, ci, e2, -, l1, l2, hr, -⟩ := ho.shape
  exact ⟨g, c, a, ci, e, by rw [hc i hi, e2], hr, by omega⟩

set_option maxHeartbeats 1000000 in
theorem dhas_any (B : Nat) (v : Value) (us : Nat → Value) (V : List (List Int)) (a : Option Addr) (c : Nat) (l : List Int) (w : World) (h : LLs w B v us V) (hr : RdL .i64 w a l) (hV : V.length ≤ 1048576) :
    Calls Try.prog 36 #[v, .slice a l.length c] w fun e w' => e = .returned (.bool (decide (l ∈ V))) ∧ Below w.heap.size w w' := by
  obtain ⟨av, cv, ev, -⟩ := h.rdx
  subst ev
  have HH := hide h
  clear h
  go_enter Try.func36, Try.ntmps36
  go_wp2
  go_loopw [5] (fun cx wx => ∃ i : Nat, cx = .int .i64 i ∧ i ≤ V.length ∧ Hid (∀ j, j < i → V.getD j [] ≠ l) ∧ Below w.heap.size w wx) (fun cx _ => V.length - (intOf cx).toNat)
  case atStart => exact ⟨0, rfl, Nat.zero_le _, (fun j hj => by omega), Below.refl _ _⟩
  case round =>
    obtain ⟨i, rfl, hi, hn, hb⟩ := hrel
    by_cases hlt : i < V.length
    · obtain ⟨g, c', a', ci, e, hcell, hrd, hml⟩ := ((unhide HH).below hb).at hlt
      cases e
      have hlt' : (i : Int) < (V.length : Int) := by omega
      obtain ⟨X, hX⟩ : ∃ X, X = V.getD i [] := ⟨_, rfl⟩
      rw [← hX] at hcell hrd hml
      have HX := hide hX
      clear hX
      have hr' := hr.below hb
      go_wp2_with fail
      refine (same_list a' a ci c X l wr hrd hr' hml).mono ?_
      rintro e w1 ⟨rfl, hb1⟩
      have b1 := bstep hb hb1
      by_cases hs : X = l
      · have HE : Hid (decide (l ∈ V) = true) := by
          refine decide_eq_true ?_
          rw [← hs, unhide HX]
          exact gd_memα hlt
        rw [decide_eq_true hs]
        clear hs
        go_wp2
        go_ret
        exact ⟨ret_bool (unhide HE).symm, b1⟩
      · have HS := hide hs
        rw [decide_eq_false hs]
        clear hs
        go_wp2
        go_roundw
        case rel =>
          refine ⟨i + 1, by go_num, by omega, (fun j hj => ?_), b1⟩
          by_cases e : j = i
          · subst e; rw [← unhide HX]; exact unhide HS
          · exact unhide hn j (by omega)
        case measure => simp [intOf]; omega
    · have HE : Hid (decide (l ∈ V) = false) := by
        refine decide_eq_false fun h9 => ?_
        obtain ⟨p, hp, e⟩ := mem_gdα (d := ([] : List Int)) h9
        exact unhide hn p (by omega) e
      have hlt' : ¬ (i : Int) < (V.length : Int) := by omega
      go_wp2
      go_ret
      exact ⟨ret_bool (unhide HE).symm, hb⟩

/-- One pair more. -/
def prS (f : Nat → Nat → Option (List Int)) (s t : Nat) (L : List (List Int)) : List (List Int) := match f s t with
  | none => L
  | some w => if w ∈ L then L else L ++ [w]
/-- s with the j next states. -/
def prRow (f : Nat → Nat → Option (List Int)) (s : Nat) : Nat → List (List Int) → List (List Int)
  | 0, L => L
  | j + 1, L => prS f s (s + 1 + j) (prRow f s j L)
/-- All pairs of the first s states with those behind them. -/
def prAll (f : Nat → Nat → Option (List Int)) (N : Nat) : Nat → List (List Int)
  | 0 => []
  | s + 1 => prRow f s (N - (s + 1)) (prAll f N s)
theorem prS_none {f : Nat → Nat → Option (List Int)} {s t : Nat} {L : List (List Int)} (h : f s t = none) : prS f s t L = L := by unfold prS; rw [h]
theorem prS_old {f : Nat → Nat → Option (List Int)} {s t : Nat} {L : List (List Int)} {w : List Int} (h : f s t = some w) (hm : w ∈ L) : prS f s t L = L := by unfold prS; rw [h]; exact if_pos hm
theorem prS_new {f : Nat → Nat → Option (List Int)} {s t : Nat} {L : List (List Int)} {w : List Int} (h : f s t = some w) (hm : ¬ w ∈ L) : prS f s t L = L ++ [w] := by unfold prS; rw [h]; exact if_neg hm
theorem prS_len (f : Nat → Nat → Option (List Int)) (s t : Nat) (L : List (List Int)) : (prS f s t L).length ≤ L.length + 1 := by
  cases h : f s t with
  | none => rw [prS_none h]; omega
  | some w =>
    by_cases hm : w ∈ L
    · rw [prS_old h hm]; omega
    · rw [prS_new h hm]; simp
theorem prRow_len (f : Nat → Nat → Option (List Int)) (s : Nat) : ∀ (j : Nat) (L : List (List Int)), (prRow f s j L).length ≤ L.length + j
  | 0, L => Nat.le_refl _
  | j + 1, L => by
    have h1 := prS_len f s (s + 1 + j) (prRow f s j L)
    have h2 := prRow_len f s j L
    show (prS f s (s + 1 + j) (prRow f s j L)).length ≤ _
    omega
theorem prAll_len (f : Nat → Nat → Option (List Int)) (N : Nat) : ∀ (s : Nat), (prAll f N s).length ≤ s * N
  | 0 => by simp [prAll]
  | s + 1 => by
    have h1 := prRow_len f s (N - (s + 1)) (prAll f N s)
    have h2 := prAll_len f N s
    show (prRow f s (N - (s + 1)) (prAll f N s)).length ≤ _
    rw [Nat.add_mul, Nat.one_mul]
    omega
theorem prRow_congr {f g : Nat → Nat → Option (List Int)} {s : Nat} : ∀ (j : Nat) (L : List (List Int)), (∀ t, t < s + 1 + j → f s t = g s t) → prRow f s j L = prRow g s j L
  | 0, L, _ => rfl
  | j + 1, L, h => by
    show prS f s (s + 1 + j) (prRow f s j L) = prS g s (s + 1 + j) (prRow g s j L)
    rw [prRow_congr j L fun t ht => h t (by omega)]
    unfold prS
    rw [h (s + 1 + j) (by omega)]
theorem prAll_congr {f g : Nat → Nat → Option (List Int)} {N : Nat} (h : ∀ s t, s < N → t < N → f s t = g s t) : ∀ (s : Nat), s ≤ N → prAll f N s = prAll g N s
  | 0, _ => rfl
  | s + 1, hs => by
    show prRow f s (N - (s + 1)) (prAll f N s) = prRow g s (N - (s + 1)) (prAll g N s)
    rw [prAll_congr h s (by omega), prRow_congr _ _ fun t ht => h s t (by omega) (by omega)]
/-- f finds the first words. -/
def PrF (m : Mc) (f : Nat → Nat → Option (List Int)) : Prop := ∀ s t : Nat, (s : Int) < m.n → (t : Int) < m.n → SepR m m s t (f s t)
theorem pr_ex (m : Mc) : ∃ f, PrF m f := ⟨fun s t => Classical.choose (sep_ex m m s t), fun s t _ _ => Classical.choose_spec (sep_ex m m s t)⟩
/-- Pairs, as the document has it. -/
def prV (m : Mc) (f : Nat → Nat → Option (List Int)) : List (List Int) × Int := if (mchV m).2 ≠ 0 then ([], (mchV m).2) else (prAll f m.n.toNat m.n.toNat, 0)
theorem prV_err {m : Mc} {f : Nat → Nat → Option (List Int)} (h : (mchV m).2 ≠ 0) : prV m f = ([], (mchV m).2) := by unfold prV; rw [if_pos h]
theorem prV_ok {m : Mc} {f : Nat → Nat → Option (List Int)} (h : (mchV m).2 = 0) : prV m f = (prAll f m.n.toNat m.n.toNat, 0) := by unfold prV; rw [if_neg (by simp [h])]
/-- What Pairs leaves. -/
def PrPost (m : Mc) (f : Nat → Nat → Option (List Int)) (w : World) (e : Ending) (w' : World) : Prop :=
  ∃ v us, e = .returned (.tuple #[v, .int .i64 (prV m f).2]) ∧ LLs w' w.heap.size v us (prV m f).1 ∧ Below w.heap.size w w'
/-- A list behind the lists. -/
theorem LLs.push {B : Nat} {w : World} {vw : Value} {us : Nat → Value} {V : List (List Int)} (h : LLs w B vw us V) {u : Value} {l : List Int} (hu : OwnL .i64 3 w B u l) (hx : ∀ b, u.ownBlock = some b → vw.ownBlock ≠ some b ∧ ∀ j, j < V.length → (us j).ownBlock ≠ some b) {wg : World} {o : Obj} {vw' : Value} (hw : OwnV wg B vw' (V.length + 1) (joinV V.length us fun _ => u)) (hg : (w.alloc o).grownBy wg vw.ownBlock) (ha : ∀ b, vw'.ownBlock = some b → vw.ownBlock = some b ∨ (w.alloc o).heap.size ≤ b) :
    LLs wg B vw' (joinV V.length us fun _ => u) (V ++ [l]) := by
  have S : SM B w (.slice none 0 0) (.slice none 0 0) vw us 0 [] [] V := ⟨World.ownsRow_nil _ _ _ _, OwnL.nil _ _ _ _, h, (fun b e => by cases e), (fun b e => by cases e)⟩
  refine (S.word hu (fun b e hc => ?_) hw hg ha).wd
  rcases hc with e2 | e2 | e2 | ⟨j, hj, e2⟩
  · cases e2
  · cases e2
  · exact (hx b e).1 e2
  · exact (hx b e).2 j hj e2
end Go.Proofs.Ytknefgdcnacfoaa

/-
  What the reference's Pairs returns.
-/
namespace Go.Proofs.Ytknefgdcnacfoaa
open Go.RowKit

set_option maxRecDepth 100000 in
set_option maxHeartbeats 4000000 in
theorem rpairs_any (m : Mc) (a1 : Option Addr) (c1 : Nat) (a2 : Option Addr) (c2 : Nat) (w : World) (f : Nat → Nat → Option (List Int)) (h1 : RdL .i64 w a1 m.nx) (h2 : RdL .i64 w a2 m.out) (ln : m.nx.length ≤ maxLen) (lo : m.out.length ≤ maxLen) (hf : PrF m f) :
    Calls Try.prog 20 #[mval m a1 c1 a2 c2] w fun e w' => PrPost m f w e w' := by
  have b0 := ballo w (.cells #[.int .i64 m.kind, .int .i64 m.k, .int .i64 m.o, .int .i64 m.n, .slice a1 m.nx.length c1, .slice a2 m.out.length c2] 24)
  have A0 := Box.alloc w m a1 c1 a2 c2 24
  have HC := hide (rmcheck_any m a1 c1 a2 c2 _ (h1.below b0) (h2.below b0) ln lo)
  unfold mval at HC ⊢
  have HA := hide A0
  have HW := hide b0
  have HF := hide hf
  clear A0 b0 hf
  go_enter Try.func20, Try.ntmps20
  go_wp2_with fail
  refine (unhide HC).mono ?_
  rintro e w1 ⟨rfl, hb1⟩
  have HW1 := hide (bstep (unhide HW) hb1)
  have HA1 := hide ((unhide HA).below hb1)
  clear HC HA HW hb1
  by_cases hz : (mchV m).2 = 0
  rotate_left
  · have tz := ne_bne' hz
    have HS := hide (prV_err (f := f) hz)
    clear hz
    generalize (mchV m).2 = E at *
    go_wp2
    go_ret2
    unfold PrPost
    rw [unhide HS]
    exact ⟨.slice none 0 0, fun _ => .slice none 0 0, rfl, LLs.nil _ _ _, unhide HW1⟩
  have R := right_of hz
  have HS := hide (prV_ok (f := f) hz)
  rw [hz]
  have n0 := R.n0
  have n1 := R.n1
  obtain ⟨N, hN⟩ := Int.eq_ofNat_of_zero_le (show 0 ≤ m.n by omega)
  have hNt : m.n.toNat = N := by omega
  rw [hNt] at HS
  have hN1 : N ≤ 1024 := by omega
  have HN := hide hN
  have HR := hide R
  have HZ1 := hide (unhide HW1).size
  have hNN : N * N ≤ 1024 * 1024 := Nat.mul_le_mul hN1 hN1
  clear hz R hN hNt
  go_wp2
  go_loopw [6, 7] (fun vw cx wx => ∃ (s : Nat) (us : Nat → Value), cx = .int .i64 s ∧ s ≤ N ∧ LLs wx w1.heap.size vw us (prAll f N s) ∧ Below w1.heap.size w1 wx) (fun _ cx _ => N - (intOf cx).toNat)
  case atStart => exact ⟨0, fun _ => .slice none 0 0, rfl, Nat.zero_le _, LLs.nil _ _ _, Below.refl _ _⟩
  case round =>
    obtain ⟨s, us, rfl, hs, hL, hb⟩ := hrel
    obtain ⟨p0, p1, p2, p3, p4, p5⟩ := (unhide HA1).below hb
    rw [unhide HN] at p3
    have HL := hide hL
    have HB := hide hb
    obtain ⟨av, cv, ev, -⟩ := hL.rdx
    clear hL hb
    by_cases hlt : s < N
    rotate_left
    · have hlt' : ¬ (s : Int) < (N : Int) := by omega
      have HE : Hid (s = N) := by show _ = _; omega
      subst ev
      go_wp2
      go_ret2
      unfold PrPost
      rw [unhide HS]
      have h9 := unhide HL
      rw [unhide HE] at h9
      exact ⟨_, us, rfl, by rw [unhide HE]; exact h9.base (unhide HZ1), (unhide HW1).trans ((unhide HB).mono (unhide HZ1))⟩
    have hlt' : (s : Int) < (N : Int) := by omega
    have hsN : (s + 1) * N ≤ N * N := Nat.mul_le_mul_right N hlt
    have hsl := prAll_len f N s
    rw [Nat.add_mul, Nat.one_mul] at hsN
    have HSL : Hid ((prAll f N s).length + N ≤ 1048576) := by show _ ≤ _; omega
    clear hsN hsl
    obtain ⟨wo, hwo⟩ : ∃ wo, wo = wr := ⟨_, rfl⟩
    subst hwo
    subst ev
    go_wp2
    clear p0 p1 p2 p3 p4 p5
    go_loopw [6, 8] (fun vw cx wx => ∃ (j : Nat) (us : Nat → Value), cx = .int .i64 ((s + 1 + j : Nat) : Int) ∧ s + 1 + j ≤ N ∧ LLs wx w1.heap.size vw us (prRow f s j (prAll f N s)) ∧ Below w1.heap.size w1 wx) (fun _ cx _ => N - (intOf cx).toNat)
    case atStart => exact ⟨0, us, by go_num, by omega, unhide HL, unhide HB⟩
    case round =>
      obtain ⟨j, us', rfl, hj, hL, hb⟩ := hrel
      clear HL HB
      obtain ⟨p0, p1, p2, p3, p4, p5⟩ := (unhide HA1).below hb
      have bx := (unhide HW1).trans (hb.mono (unhide HZ1))
      have hLl := prRow_len f s j (prAll f N s)
      have hLb : (prRow f s j (prAll f N s)).length ≤ 1048576 := by have := unhide HSL; omega
      have HL := hide hL
      have HB := hide hb
      obtain ⟨av, cv, ev, -⟩ := hL.rdx
      obtain ⟨T, hT⟩ : ∃ T, T = s + 1 + j := ⟨_, rfl⟩
      have HT := hide hT
      have hT2 : ((s + 1 + j : Nat) : Int) = (T : Int) := by omega
      have hTN : T ≤ N := by omega
      rw [hT2]
      subst ev
      clear hL hb hT hT2
      by_cases hlt2 : T < N
      rotate_left
      · have hx : ¬ (T : Int) < m.n := by have := unhide HN; omega
        have HE : Hid (j = N - (s + 1)) := by show _ = _; have := unhide HT; omega
        go_wp2
        go_roundw
        case rel =>
          have h9 := unhide HL
          rw [unhide HE] at h9
          rw [unhide HE]
          exact ⟨s + 1, us', by go_num, by omega, h9, unhide HB⟩
        case measure => simp [intOf]; omega
      have hx : (T : Int) < m.n := by have := unhide HN; omega
      have hsx : (s : Int) < m.n := by have := unhide HN; omega
      have HC := hide (rsearch_any m m a1 c1 a2 c2 a1 c1 a2 c2 s T wr (f s T) (unhide HR) (unhide HR) rfl rfl (h1.below bx) (h2.below bx) (h1.below bx) (h2.below bx) hsx hx (unhide HF s T hsx hx))
      unfold mval at HC
      have hzw := (unhide HB).size
      cases hfo : f s T with
      | none =>
        rw [hfo] at HC
        have HP : Hid (prRow f s (j + 1) (prAll f N s) = prRow f s j (prAll f N s)) := by
          show prS f s (s + 1 + j) _ = _
          rw [← unhide HT]; exact prS_none hfo
        clear hfo
        go_wp2_with fail
        refine (unhide HC).mono ?_
        rintro e w2 ⟨v, rfl, hv, hb2⟩
        obtain ⟨av2, cv2, ev2, -, -, -, -, -⟩ := hv.shape
        subst ev2
        have HL2 := hide ((unhide HL).below hb2)
        have HB2 := hide ((unhide HB).trans (hb2.mono hzw))
        clear hv hb2 HC
        go_wp2
        go_roundw
        case rel =>
          refine ⟨j + 1, us', by rw [unhide HT]; go_num, by have := unhide HT; omega, ?_, unhide HB2⟩
          rw [unhide HP]
          exact unhide HL2
        case measure => simp [intOf]; omega
      | some l =>
        rw [hfo] at HC
        have HP1 : Hid (l ∈ prRow f s j (prAll f N s) → prRow f s (j + 1) (prAll f N s) = prRow f s j (prAll f N s)) := fun h => by
          show prS f s (s + 1 + j) _ = _
          rw [← unhide HT]; exact prS_old hfo h
        have HP2 : Hid (¬ l ∈ prRow f s j (prAll f N s) → prRow f s (j + 1) (prAll f N s) = prRow f s j (prAll f N s) ++ [l]) := fun h => by
          show prS f s (s + 1 + j) _ = _
          rw [← unhide HT]; exact prS_new hfo h
        clear hfo
        generalize prRow f s j (prAll f N s) = L at *
        go_wp2_with fail
        refine (unhide HC).mono ?_
        rintro e w2 ⟨v, rfl, hv, hb2⟩
        have hv : OwnL .i64 3 w2 wr.heap.size v l := hv
        obtain ⟨av2, cv2, ev2, -, -, -, hrv, -⟩ := hv.shape
        subst ev2
        have HL2 := hide ((unhide HL).below hb2)
        have HB2 := hide ((unhide HB).trans (hb2.mono hzw))
        have HV2 := hide hv
        have HUX : Hid (∀ b, (Value.slice av2 l.length cv2).ownBlock = some b → (Value.slice av L.length cv).ownBlock ≠ some b ∧ ∀ i, i < L.length → (us' i).ownBlock ≠ some b) := fun b e => by
          have h8 := (hv.lt e).1
          refine ⟨fun e2 => ?_, fun i hi e2 => ?_⟩
          · have := ((unhide HL).out.lt e2).2; omega
          · have := ((unhide HL).fam.own i hi).lt e2; omega
        have HH := hide (dhas_any w1.heap.size _ us' L av2 cv2 l w2 (unhide HL2) hrv hLb)
        have hz2 := hb2.size
        clear hv hb2 HC hrv
        go_wp2_with fail
        refine (unhide HH).mono ?_
        rintro e w3 ⟨rfl, hb3⟩
        have HL3 := hide ((unhide HL2).below hb3)
        have HB3 := hide ((unhide HB2).trans (hb3.mono (by omega)))
        have HV3 := hide ((unhide HV2).grown hb3)
        have hz3 := hb3.size
        clear HH HL2 HB2 HV2 hb3 p0 p1 p2 p3 p4 p5
        by_cases hm : l ∈ L
        · have HP := hide (unhide HP1 hm)
          rw [decide_eq_true hm]
          clear hm HP1 HP2
          go_wp2
          go_roundw
          case rel =>
            refine ⟨j + 1, us', by rw [unhide HT]; go_num, by have := unhide HT; omega, ?_, unhide HB3⟩
            rw [unhide HP]
            exact unhide HL3
          case measure => simp [intOf]; omega
        · have HP := hide (unhide HP2 hm)
          rw [decide_eq_false hm]
          clear hm HP1 HP2
          have RV := RdV.lit w3 1 (fun _ => Value.slice av2 l.length cv2) #[.slice av2 l.length cv2] (by unfold maxLen; omega) (by simp [cellsV])
          go_wp2_with (at_builtin; refine wplV_append3 rfl (.tmp 48) (.tmp 50) rfl w1.heap.size _ L.length us' rfl ((unhide HL3).out.alloc _) ⟨w3.heap.size, 0, none⟩ 1 1 (fun _ => .slice av2 l.length cv2) rfl RV (by intro i _; exact ⟨_, _, _, rfl⟩) (by omega) (by omega) (by simp; omega) ?_; intro vw' wg hownW hgW haW; have LW := (unhide HL3).push (OwnL.mono (unhide HV3) (by omega)) (unhide HUX) hownW hgW haW; have dG : Below w1.heap.size w1 wg := ((unhide HB3).alloc (by omega) _).grown hgW (by simp; omega) (fun k e => ((unhide HL3).out.lt e).1); obtain ⟨aw', cw'', ew', -, -, -⟩ := hownW.shape; subst ew')
          go_roundw
          case rel =>
            refine ⟨j + 1, joinV L.length us' (fun _ => .slice av2 l.length cv2), by rw [unhide HT]; go_num, by have := unhide HT; omega, ?_, dG⟩
            rw [unhide HP]
            exact LW
          case measure => simp [intOf]; omega
end Go.Proofs.Ytknefgdcnacfoaa
