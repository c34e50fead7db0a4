/-
  The reference's line of layer 10: the answer at a place of a text.
-/
import Derived.Test.YtagoilabphmdfaaK28
import Derived.Test.YtagoilabphmdfaaK1
import Derived.Test.YtagoilabphmdfaaTNum
namespace Go.Proofs.Ytagoilabphmdfaa
open Go.RowKit

/-- The numbers of a line from a place on: the list, the place behind it; or the place and the error. -/
def nmsV (kd : Int) (b : List UInt8) : Nat → List Int → Nat → List Int × Int × Int
  | 0, l, i => (l, (i : Int), 0)
  | f + 1, l, i =>
    if i < b.length ∧ bt8 b i ≠ 10 then
      if kd = 2 ∨ bt8 b i ≠ 32 then ([], (i : Int), 6)
      else if l.length = 4096 then ([], (i : Int), 2)
      else if (numV b (i + 1)).2.2 ≠ 0 then ([], ((numV b (i + 1)).2.1 : Int), (numV b (i + 1)).2.2)
      else nmsV kd b f (l ++ [((numV b (i + 1)).1 : Int)]) (numV b (i + 1)).2.1
    else (l, (i : Int), 0)
/-- The kind that a byte says. -/
def kdB (z : Int) : Int := if z = 110 then 3 else if z = 121 then 2 else if z = 111 then 1 else 0
/-- What a line's numbers make. -/
def mkL (kd : Int) (n : Nat) (r : List Int × Int × Int) : An × Int × Int :=
  if r.2.2 ≠ 0 then (an0, r.2.1, r.2.2)
  else if (n : Int) ≤ r.2.1 then (an0, (n : Int), 6)
  else (⟨kd, if kd = 1 then r.1 else [], if kd = 1 then [] else r.1⟩, r.2.1 + 1, 0)
def lineV (b : List UInt8) (x : Nat) : An × Int × Int :=
  if kdB (bt8 b x) = 0 then (an0, (x : Int), 6) else mkL (kdB (bt8 b x)) b.length (nmsV (kdB (bt8 b x)) b b.length [] (x + 1))
theorem nmsV_end {kd : Int} {b : List UInt8} {f : Nat} {l : List Int} {i : Nat} (h : ¬ (i < b.length ∧ bt8 b i ≠ 10)) : nmsV kd b f l i = (l, (i : Int), 0) := by
  cases f
  · rfl
  · unfold nmsV; rw [if_neg h]
theorem nmsV_form {kd : Int} {b : List UInt8} {f : Nat} {l : List Int} {i : Nat} (hf : b.length ≤ i + f) (h1 : i < b.length) (h2 : bt8 b i ≠ 10) (h3 : kd = 2 ∨ bt8 b i ≠ 32) : nmsV kd b f l i = ([], (i : Int), 6) := by
  cases f
  · omega
  · unfold nmsV; rw [if_pos ⟨h1, h2⟩, if_pos h3]
theorem nmsV_long {kd : Int} {b : List UInt8} {f : Nat} {l : List Int} {i : Nat} (hf : b.length ≤ i + f) (h1 : i < b.length) (h2 : bt8 b i = 32) (h3 : kd ≠ 2) (h4 : l.length = 4096) : nmsV kd b f l i = ([], (i : Int), 2) := by
  cases f
  · omega
  · unfold nmsV; rw [if_pos ⟨h1, by omega⟩, if_neg (by omega), if_pos h4]
theorem nmsV_num {kd : Int} {b : List UInt8} {f : Nat} {l : List Int} {i : Nat} (hf : b.length ≤ i + f) (h1 : i < b.length) (h2 : bt8 b i = 32) (h3 : kd ≠ 2) (h4 : l.length ≠ 4096) (h5 : (numV b (i + 1)).2.2 ≠ 0) : nmsV kd b f l i = ([], ((numV b (i + 1)).2.1 : Int), (numV b (i + 1)).2.2) := by
  cases f
  · omega
  · unfold nmsV; rw [if_pos ⟨h1, by omega⟩, if_neg (by omega), if_neg h4, if_pos h5]
theorem nmsV_step {kd : Int} {b : List UInt8} {f : Nat} {l : List Int} {i : Nat} (hf : b.length ≤ i + f) (h1 : i < b.length) (h2 : bt8 b i = 32) (h3 : kd ≠ 2) (h4 : l.length ≠ 4096) (h5 : (numV b (i + 1)).2.2 = 0) : ∃ g, f = g + 1 ∧ nmsV kd b f l i = nmsV kd b g (l ++ [((numV b (i + 1)).1 : Int)]) (numV b (i + 1)).2.1 := by
  cases f
  · omega
  · refine ⟨_, rfl, ?_⟩
    rw [nmsV, if_pos ⟨h1, by omega⟩, if_neg (by omega), if_neg h4, if_neg (by rw [h5]; simp)]

def LnPost (w : World) (r : An × Int × Int) (e : Ending) (w' : World) : Prop :=
  ∃ vo vw, e = .returned (.tuple #[.agg #[.int .i64 r.1.kind, vo, vw], .int .i64 r.2.1, .int .i64 r.2.2]) ∧ OwnL .i64 3 w' w.heap.size vo r.1.out ∧ OwnL .i64 3 w' w.heap.size vw r.1.word ∧ Below w.heap.size w w'
theorem line_kd {b : List UInt8} {x : Nat} {kd : Int} (h : kdB (bt8 b x) = kd) (h0 : kd ≠ 0) : lineV b x = mkL kd b.length (nmsV kd b b.length [] (x + 1)) := by
  unfold lineV; rw [h, if_neg h0]
theorem mkL_bad {kd : Int} {n : Nat} {i e : Int} (h : e ≠ 0) : mkL kd n ([], i, e) = (an0, i, e) := by unfold mkL; rw [if_pos h]
theorem mkL_end {kd : Int} {n : Nat} {l : List Int} : mkL kd n (l, (n : Int), 0) = (an0, (n : Int), 6) := by unfold mkL; rw [if_neg (by simp), if_pos (Int.le_refl _)]
theorem mkL_ok {kd : Int} {n i : Nat} {l : List Int} (h : i < n) : mkL kd n (l, (i : Int), 0) = (⟨kd, if kd = 1 then l else [], if kd = 1 then [] else l⟩, (i : Int) + 1, 0) := by
  unfold mkL; rw [if_neg (by simp), if_neg (by simp only; omega)]

set_option maxRecDepth 100000 in
set_option maxHeartbeats 4000000 in
theorem rline_k1 (a : Option Addr) (c : Nat) (b : List UInt8) (x : Nat) (w : World) (hr : RdL .u8 w a (zs b)) (hx : x < b.length) (hl : b.length ≤ 16777216) (hz : bt8 b x = 111) :
    Calls Try.prog 26 #[.slice a b.length c, .int .i64 (x : Int)] w (LnPost w (lineV b x)) := by
  have hb0 : Below w.heap.size w (w.alloc (.cells #[.int .i64 0, .slice none 0 0, .slice none 0 0] 28)) := (Below.refl _ _).alloc (Nat.le_refl _) _
  have T0 : Tri (w.alloc (.cells #[.int .i64 0, .slice none 0 0, .slice none 0 0] 28)) w.heap.size (.int .i64 0) (.slice none 0 0) (.slice none 0 0) := ⟨by simp, by simp, by simp⟩
  have F0 : ∀ i, (w.alloc (.cells #[.int .i64 0, .slice none 0 0, .slice none 0 0] 28)).frozen? ⟨w.heap.size, i, none⟩ = false := fun i => by rw [frozen?_alloc_cells]; exact frzN w (Nat.le_refl _)
  obtain ⟨g, off, rfl, hc⟩ := (hr.below hb0).byte hx
  have hcx := hc x hx
  have hx' : (x : Int) < (b.length : Int) := by omega
  have HR := hide hr
  clear hr hc
  have HK := hide (line_kd (b := b) (x := x) (kd := 1) (by rw [hz]; rfl) (by decide))
  rw [hz] at hcx
  clear hz
  have TH := hide T0
  have FH := hide F0
  clear T0 F0
  go_enter Try.func26, Try.ntmps26
  go_wp2
  have hs0 : (w.alloc (.cells #[.int .i64 0, .slice none 0 0, .slice none 0 0] 28)).heap.size = w.heap.size + 1 := by simp
  clear hcx
  generalize (w.alloc (.cells #[.int .i64 0, .slice none 0 0, .slice none 0 0] 28)) = W0 at *
  go_loopw [8, 9] (fun lv iv wr => ∃ (L : List Int) (i f : Nat), iv = .int .i64 (i : Int) ∧ i ≤ b.length ∧ b.length ≤ i + f ∧ L.length ≤ 4096 ∧ Hid (OwnL .i64 3 wr (w.heap.size + 1) lv L) ∧ Below (w.heap.size + 1) W0 wr ∧ Hid (nmsV 1 b b.length [] (x + 1) = nmsV 1 b f L i)) (fun _ iv _ => b.length - (intOf iv).toNat)
  case atStart => exact ⟨[], x + 1, b.length, by go_num, by omega, by omega, by simp, hide (OwnL.nil _ _ _ _), Below.refl _ _, hide rfl⟩
  case round =>
    obtain ⟨L, i, f, rfl, hi, hf, hL, HO, hbr, HN⟩ := hrel
    have hsr := hbr.size
    have bw : Below w.heap.size w wr := hb0.trans (hbr.mono (Nat.le_succ _))
    have TZ : Tri wr w.heap.size (.int .i64 0) (.slice none 0 0) (.slice none 0 0) := ⟨(hbr.cell (by exact Nat.lt_succ_self _)).trans (unhide TH).p0, (hbr.cell (by exact Nat.lt_succ_self _)).trans (unhide TH).p1, (hbr.cell (by exact Nat.lt_succ_self _)).trans (unhide TH).p2⟩
    have f0 := frzO (i := 0) (unhide FH 0) hbr (Nat.lt_succ_self _)
    have f1 := frzO (i := 1) (unhide FH 1) hbr (Nat.lt_succ_self _)
    have f2 := frzO (i := 2) (unhide FH 2) hbr (Nat.lt_succ_self _)
    obtain ⟨z0, z1, z2⟩ := id TZ
    obtain ⟨a8, c8, rfl, -⟩ := (unhide HO).shape
    by_cases h1 : i < b.length
    · have hrr := (unhide HR).below bw
      have ci : wr.cell? ⟨g, off + i, none⟩ = some (.int .u8 (bt8 b i)) := by
        obtain ⟨g', off', e, hc'⟩ := hrr.byte h1
        cases e
        exact hc' i h1
      have h1' : (i : Int) < (b.length : Int) := by omega
      have hge : ¬ ((b.length : Int) ≤ (i : Int)) := by omega
      by_cases h2 : bt8 b i = 10
      · have HE := hide ((unhide HK).trans (by rw [unhide HN, nmsV_end (fun h => h.2 h2), mkL_ok h1]))
        rw [h2] at ci
        clear h2 HN HK hrr
        go_wp2
        change bodyPost _ _ _ _ _ (three wr w.heap.size (.int .i64 1) (.slice a8 L.length c8) (.slice none 0 0))
        have Z3 := TZ.set (.int .i64 1) (.slice a8 L.length c8) (.slice none 0 0)
        have b3 := three_below bw (b := w.heap.size) (Nat.le_refl _) (.int .i64 1) (.slice a8 L.length c8) (.slice none 0 0)
        have O3 := ownKeep (unhide HO) (.int .i64 1) (.slice a8 L.length c8) (.slice none 0 0)
        generalize three wr w.heap.size (.int .i64 1) (.slice a8 L.length c8) (.slice none 0 0) = w9 at *
        obtain ⟨q0, q1, q2⟩ := Z3
        refine bodyPost_ret (v := .tuple #[.agg #[.int .i64 1, .slice a8 L.length c8, .slice none 0 0], .int .i64 ((i : Int) + 1), .int .i64 (0)]) ?_ rfl ⟨.slice a8 L.length c8, .slice none 0 0, by rw [unhide HE]; try rfl, by rw [unhide HE]; exact O3, by rw [unhide HE]; exact OwnL.nil _ _ _ _, b3⟩
        simp [results, Try.results26, go_sem, q0, q1, q2]
      · have t10 : (bt8 b i != 10) = true := by simpa using h2
        by_cases h3 : bt8 b i = 32
        · have t32 : (bt8 b i != 32) = false := by simp [h3]
          by_cases h4 : L.length = 4096
          · have t58 : ((L.length : Int) == 4096) = true := by simp; omega
            have HE := hide ((unhide HK).trans (by rw [unhide HN, nmsV_long hf h1 h3 (by decide) h4, mkL_bad (by decide)]))
            clear h2 h3 HN HK hrr
            generalize bt8 b i = z at *
            go_wp2
            change bodyPost _ _ _ _ _ (three wr w.heap.size (.int .i64 0) (.slice none 0 0) (.slice none 0 0))
            have Z3 := TZ.set (.int .i64 0) (.slice none 0 0) (.slice none 0 0)
            have b3 := three_below bw (b := w.heap.size) (Nat.le_refl _) (.int .i64 0) (.slice none 0 0) (.slice none 0 0)
            generalize three wr w.heap.size (.int .i64 0) (.slice none 0 0) (.slice none 0 0) = w9 at *
            obtain ⟨q0, q1, q2⟩ := Z3
            refine bodyPost_ret (v := .tuple #[.agg #[.int .i64 0, .slice none 0 0, .slice none 0 0], .int .i64 ((i : Int)), .int .i64 (2)]) ?_ rfl ⟨.slice none 0 0, .slice none 0 0, by rw [unhide HE]; try rfl, by rw [unhide HE]; exact OwnL.nil _ _ _ _, by rw [unhide HE]; exact OwnL.nil _ _ _ _, b3⟩
            simp [results, Try.results26, go_sem, q0, q1, q2]
          · have t58 : ((L.length : Int) == 4096) = false := by simp; omega
            have hn : Calls Try.prog 37 #[.slice (some ⟨g, off, none⟩) b.length c, .int .i64 ((i : Int) + 1)] wr fun e w' => e = .returned (.tuple #[.int .i64 ((numV b (i + 1)).1 : Int), .int .i64 ((numV b (i + 1)).2.1 : Int), .int .i64 (numV b (i + 1)).2.2]) ∧ w' = wr := by
              have := rnumber_any (some ⟨g, off, none⟩) c b ((i + 1 : Nat) : Int) wr hrr (by omega)
              rw [nmV_at (show i + 1 ≤ b.length by omega)] at this
              exact this
            have hnx := numV_le (b := b) (i := i + 1) (by omega)
            by_cases h5 : (numV b (i + 1)).2.2 = 0
            · obtain ⟨g', rfl, hst⟩ := nmsV_step (kd := 1) hf h1 h3 (by decide) h4 h5
              have t70 : ((numV b (i + 1)).2.2 != 0) = false := by simp [h5]
              have HS := hide ((unhide HN).trans hst)
              clear h2 h3 hst h5 HN
              generalize bt8 b i = z at *
              generalize (numV b (i + 1)).2.2 = e9 at *
              generalize (numV b (i + 1)).2.1 = nx at *
              generalize ((numV b (i + 1)).1 : Int) = n9 at *
              go_wp2_with fail
              refine hn.mono ?_
              rintro e w' ⟨rfl, rfl⟩
              have hb5 : Below (w.heap.size + 1) w' (w'.alloc (.cells #[.int .i64 n9] 3)) := (Below.refl _ _).alloc (by omega) _
              go_wp2_with (at_builtin; refine wpl_pushA eInt rfl (.tmp 74) (.tmp 76) rfl (w.heap.size + 1) (.slice a8 L.length c8) L rfl ((unhide HO).alloc _) ⟨w'.heap.size, 0, none⟩ 1 [n9] rfl (RdL.one _ _) (by simp only [List.length_cons, List.length_nil]; omega) (by simp; omega) ?_; intro v3 w3 ho3 hb3 _ _)
              exact ⟨⟨L ++ [n9], nx, g', rfl, by omega, by omega, by simp; omega, hide ho3, (hbr.trans hb5).trans hb3, HS⟩, by simp [intOf]; omega⟩
            · have t70 : ((numV b (i + 1)).2.2 != 0) = true := by simpa using h5
              have HE := hide ((unhide HK).trans (by rw [unhide HN, nmsV_num hf h1 h3 (by decide) h4 h5, mkL_bad h5]))
              clear h2 h3 h5 HN HK hrr
              generalize bt8 b i = z at *
              generalize (numV b (i + 1)).2.2 = e9 at *
              generalize (numV b (i + 1)).2.1 = nx at *
              generalize ((numV b (i + 1)).1 : Int) = n9 at *
              go_wp2_with fail
              refine hn.mono ?_
              rintro e w' ⟨rfl, rfl⟩
              go_wp2
              change bodyPost _ _ _ _ _ (three w' w.heap.size (.int .i64 0) (.slice none 0 0) (.slice none 0 0))
              have Z3 := TZ.set (.int .i64 0) (.slice none 0 0) (.slice none 0 0)
              have b3 := three_below bw (b := w.heap.size) (Nat.le_refl _) (.int .i64 0) (.slice none 0 0) (.slice none 0 0)
              generalize three w' w.heap.size (.int .i64 0) (.slice none 0 0) (.slice none 0 0) = w9 at *
              obtain ⟨q0, q1, q2⟩ := Z3
              refine bodyPost_ret (v := .tuple #[.agg #[.int .i64 0, .slice none 0 0, .slice none 0 0], .int .i64 ((nx : Int)), .int .i64 (e9)]) ?_ rfl ⟨.slice none 0 0, .slice none 0 0, by rw [unhide HE]; try rfl, by rw [unhide HE]; exact OwnL.nil _ _ _ _, by rw [unhide HE]; exact OwnL.nil _ _ _ _, b3⟩
              simp [results, Try.results26, go_sem, q0, q1, q2]
        · have t32 : (bt8 b i != 32) = true := by simpa using h3
          have HE := hide ((unhide HK).trans (by rw [unhide HN, nmsV_form hf h1 h2 (.inr h3), mkL_bad (by decide)]))
          clear h2 h3 HN HK hrr
          generalize bt8 b i = z at *
          go_wp2
          change bodyPost _ _ _ _ _ (three wr w.heap.size (.int .i64 0) (.slice none 0 0) (.slice none 0 0))
          have Z3 := TZ.set (.int .i64 0) (.slice none 0 0) (.slice none 0 0)
          have b3 := three_below bw (b := w.heap.size) (Nat.le_refl _) (.int .i64 0) (.slice none 0 0) (.slice none 0 0)
          generalize three wr w.heap.size (.int .i64 0) (.slice none 0 0) (.slice none 0 0) = w9 at *
          obtain ⟨q0, q1, q2⟩ := Z3
          refine bodyPost_ret (v := .tuple #[.agg #[.int .i64 0, .slice none 0 0, .slice none 0 0], .int .i64 ((i : Int)), .int .i64 (6)]) ?_ rfl ⟨.slice none 0 0, .slice none 0 0, by rw [unhide HE]; try rfl, by rw [unhide HE]; exact OwnL.nil _ _ _ _, by rw [unhide HE]; exact OwnL.nil _ _ _ _, b3⟩
          simp [results, Try.results26, go_sem, q0, q1, q2]
    · obtain rfl : i = b.length := by omega
      have HE := hide ((unhide HK).trans (by rw [unhide HN, nmsV_end (fun h => h1 h.1), mkL_end]))
      clear HN HK
      go_wp2
      change bodyPost _ _ _ _ _ (three wr w.heap.size (.int .i64 0) (.slice none 0 0) (.slice none 0 0))
      have Z3 := TZ.set (.int .i64 0) (.slice none 0 0) (.slice none 0 0)
      have b3 := three_below bw (b := w.heap.size) (Nat.le_refl _) (.int .i64 0) (.slice none 0 0) (.slice none 0 0)
      generalize three wr w.heap.size (.int .i64 0) (.slice none 0 0) (.slice none 0 0) = w9 at *
      obtain ⟨q0, q1, q2⟩ := Z3
      refine bodyPost_ret (v := .tuple #[.agg #[.int .i64 0, .slice none 0 0, .slice none 0 0], .int .i64 ((b.length : Int)), .int .i64 (6)]) ?_ rfl ⟨.slice none 0 0, .slice none 0 0, by rw [unhide HE]; try rfl, by rw [unhide HE]; exact OwnL.nil _ _ _ _, by rw [unhide HE]; exact OwnL.nil _ _ _ _, b3⟩
      simp [results, Try.results26, go_sem, q0, q1, q2]

set_option maxRecDepth 100000 in
set_option maxHeartbeats 4000000 in
theorem rline_k2 (a : Option Addr) (c : Nat) (b : List UInt8) (x : Nat) (w : World) (hr : RdL .u8 w a (zs b)) (hx : x < b.length) (hl : b.length ≤ 16777216) (hz : bt8 b x = 121) :
    Calls Try.prog 26 #[.slice a b.length c, .int .i64 (x : Int)] w (LnPost w (lineV b x)) := by
  have hb0 : Below w.heap.size w (w.alloc (.cells #[.int .i64 0, .slice none 0 0, .slice none 0 0] 28)) := (Below.refl _ _).alloc (Nat.le_refl _) _
  have T0 : Tri (w.alloc (.cells #[.int .i64 0, .slice none 0 0, .slice none 0 0] 28)) w.heap.size (.int .i64 0) (.slice none 0 0) (.slice none 0 0) := ⟨by simp, by simp, by simp⟩
  have F0 : ∀ i, (w.alloc (.cells #[.int .i64 0, .slice none 0 0, .slice none 0 0] 28)).frozen? ⟨w.heap.size, i, none⟩ = false := fun i => by rw [frozen?_alloc_cells]; exact frzN w (Nat.le_refl _)
  obtain ⟨g, off, rfl, hc⟩ := (hr.below hb0).byte hx
  have hcx := hc x hx
  have hx' : (x : Int) < (b.length : Int) := by omega
  have HR := hide hr
  clear hr hc
  have HK := hide (line_kd (b := b) (x := x) (kd := 2) (by rw [hz]; rfl) (by decide))
  rw [hz] at hcx
  clear hz
  have TH := hide T0
  have FH := hide F0
  clear T0 F0
  go_enter Try.func26, Try.ntmps26
  go_wp2
  have hs0 : (w.alloc (.cells #[.int .i64 0, .slice none 0 0, .slice none 0 0] 28)).heap.size = w.heap.size + 1 := by simp
  clear hcx
  generalize (w.alloc (.cells #[.int .i64 0, .slice none 0 0, .slice none 0 0] 28)) = W0 at *
  go_loopw [8, 9] (fun lv iv wr => ∃ (L : List Int) (i f : Nat), iv = .int .i64 (i : Int) ∧ i ≤ b.length ∧ b.length ≤ i + f ∧ L.length ≤ 4096 ∧ Hid (OwnL .i64 3 wr (w.heap.size + 1) lv L) ∧ Below (w.heap.size + 1) W0 wr ∧ Hid (nmsV 2 b b.length [] (x + 1) = nmsV 2 b f L i)) (fun _ iv _ => b.length - (intOf iv).toNat)
  case atStart => exact ⟨[], x + 1, b.length, by go_num, by omega, by omega, by simp, hide (OwnL.nil _ _ _ _), Below.refl _ _, hide rfl⟩
  case round =>
    obtain ⟨L, i, f, rfl, hi, hf, hL, HO, hbr, HN⟩ := hrel
    have hsr := hbr.size
    have bw : Below w.heap.size w wr := hb0.trans (hbr.mono (Nat.le_succ _))
    have TZ : Tri wr w.heap.size (.int .i64 0) (.slice none 0 0) (.slice none 0 0) := ⟨(hbr.cell (by exact Nat.lt_succ_self _)).trans (unhide TH).p0, (hbr.cell (by exact Nat.lt_succ_self _)).trans (unhide TH).p1, (hbr.cell (by exact Nat.lt_succ_self _)).trans (unhide TH).p2⟩
    have f0 := frzO (i := 0) (unhide FH 0) hbr (Nat.lt_succ_self _)
    have f1 := frzO (i := 1) (unhide FH 1) hbr (Nat.lt_succ_self _)
    have f2 := frzO (i := 2) (unhide FH 2) hbr (Nat.lt_succ_self _)
    obtain ⟨z0, z1, z2⟩ := id TZ
    obtain ⟨a8, c8, rfl, -⟩ := (unhide HO).shape
    by_cases h1 : i < b.length
    · have hrr := (unhide HR).below bw
      have ci : wr.cell? ⟨g, off + i, none⟩ = some (.int .u8 (bt8 b i)) := by
        obtain ⟨g', off', e, hc'⟩ := hrr.byte h1
        cases e
        exact hc' i h1
      have h1' : (i : Int) < (b.length : Int) := by omega
      have hge : ¬ ((b.length : Int) ≤ (i : Int)) := by omega
      by_cases h2 : bt8 b i = 10
      · have HE := hide ((unhide HK).trans (by rw [unhide HN, nmsV_end (fun h => h.2 h2), mkL_ok h1]))
        rw [h2] at ci
        clear h2 HN HK hrr
        go_wp2
        change bodyPost _ _ _ _ _ (three wr w.heap.size (.int .i64 2) (.slice none 0 0) (.slice a8 L.length c8))
        have Z3 := TZ.set (.int .i64 2) (.slice none 0 0) (.slice a8 L.length c8)
        have b3 := three_below bw (b := w.heap.size) (Nat.le_refl _) (.int .i64 2) (.slice none 0 0) (.slice a8 L.length c8)
        have O3 := ownKeep (unhide HO) (.int .i64 2) (.slice none 0 0) (.slice a8 L.length c8)
        generalize three wr w.heap.size (.int .i64 2) (.slice none 0 0) (.slice a8 L.length c8) = w9 at *
        obtain ⟨q0, q1, q2⟩ := Z3
        refine bodyPost_ret (v := .tuple #[.agg #[.int .i64 2, .slice none 0 0, .slice a8 L.length c8], .int .i64 ((i : Int) + 1), .int .i64 (0)]) ?_ rfl ⟨.slice none 0 0, .slice a8 L.length c8, by rw [unhide HE]; try rfl, by rw [unhide HE]; exact OwnL.nil _ _ _ _, by rw [unhide HE]; exact O3, b3⟩
        simp [results, Try.results26, go_sem, q0, q1, q2]
      · have t10 : (bt8 b i != 10) = true := by simpa using h2
        have HE := hide ((unhide HK).trans (by rw [unhide HN, nmsV_form hf h1 h2 (.inl rfl), mkL_bad (by decide)]))
        clear h2 HN HK hrr
        generalize bt8 b i = z at *
        go_wp2
        change bodyPost _ _ _ _ _ (three wr w.heap.size (.int .i64 0) (.slice none 0 0) (.slice none 0 0))
        have Z3 := TZ.set (.int .i64 0) (.slice none 0 0) (.slice none 0 0)
        have b3 := three_below bw (b := w.heap.size) (Nat.le_refl _) (.int .i64 0) (.slice none 0 0) (.slice none 0 0)
        generalize three wr w.heap.size (.int .i64 0) (.slice none 0 0) (.slice none 0 0) = w9 at *
        obtain ⟨q0, q1, q2⟩ := Z3
        refine bodyPost_ret (v := .tuple #[.agg #[.int .i64 0, .slice none 0 0, .slice none 0 0], .int .i64 ((i : Int)), .int .i64 (6)]) ?_ rfl ⟨.slice none 0 0, .slice none 0 0, by rw [unhide HE]; try rfl, by rw [unhide HE]; exact OwnL.nil _ _ _ _, by rw [unhide HE]; exact OwnL.nil _ _ _ _, b3⟩
        simp [results, Try.results26, go_sem, q0, q1, q2]
    · obtain rfl : i = b.length := by omega
      have HE := hide ((unhide HK).trans (by rw [unhide HN, nmsV_end (fun h => h1 h.1), mkL_end]))
      clear HN HK
      go_wp2
      change bodyPost _ _ _ _ _ (three wr w.heap.size (.int .i64 0) (.slice none 0 0) (.slice none 0 0))
      have Z3 := TZ.set (.int .i64 0) (.slice none 0 0) (.slice none 0 0)
      have b3 := three_below bw (b := w.heap.size) (Nat.le_refl _) (.int .i64 0) (.slice none 0 0) (.slice none 0 0)
      generalize three wr w.heap.size (.int .i64 0) (.slice none 0 0) (.slice none 0 0) = w9 at *
      obtain ⟨q0, q1, q2⟩ := Z3
      refine bodyPost_ret (v := .tuple #[.agg #[.int .i64 0, .slice none 0 0, .slice none 0 0], .int .i64 ((b.length : Int)), .int .i64 (6)]) ?_ rfl ⟨.slice none 0 0, .slice none 0 0, by rw [unhide HE]; try rfl, by rw [unhide HE]; exact OwnL.nil _ _ _ _, by rw [unhide HE]; exact OwnL.nil _ _ _ _, b3⟩
      simp [results, Try.results26, go_sem, q0, q1, q2]

set_option maxRecDepth 100000 in
set_option maxHeartbeats 4000000 in
theorem rline_k3 (a : Option Addr) (c : Nat) (b : List UInt8) (x : Nat) (w : World) (hr : RdL .u8 w a (zs b)) (hx : x < b.length) (hl : b.length ≤ 16777216) (hz : bt8 b x = 110) :
    Calls Try.prog 26 #[.slice a b.length c, .int .i64 (x : Int)] w (LnPost w (lineV b x)) := by
  have hb0 : Below w.heap.size w (w.alloc (.cells #[.int .i64 0, .slice none 0 0, .slice none 0 0] 28)) := (Below.refl _ _).alloc (Nat.le_refl _) _
  have T0 : Tri (w.alloc (.cells #[.int .i64 0, .slice none 0 0, .slice none 0 0] 28)) w.heap.size (.int .i64 0) (.slice none 0 0) (.slice none 0 0) := ⟨by simp, by simp, by simp⟩
  have F0 : ∀ i, (w.alloc (.cells #[.int .i64 0, .slice none 0 0, .slice none 0 0] 28)).frozen? ⟨w.heap.size, i, none⟩ = false := fun i => by rw [frozen?_alloc_cells]; exact frzN w (Nat.le_refl _)
  obtain ⟨g, off, rfl, hc⟩ := (hr.below hb0).byte hx
  have hcx := hc x hx
  have hx' : (x : Int) < (b.length : Int) := by omega
  have HR := hide hr
  clear hr hc
  have HK := hide (line_kd (b := b) (x := x) (kd := 3) (by rw [hz]; rfl) (by decide))
  rw [hz] at hcx
  clear hz
  have TH := hide T0
  have FH := hide F0
  clear T0 F0
  go_enter Try.func26, Try.ntmps26
  go_wp2
  have hs0 : (w.alloc (.cells #[.int .i64 0, .slice none 0 0, .slice none 0 0] 28)).heap.size = w.heap.size + 1 := by simp
  clear hcx
  generalize (w.alloc (.cells #[.int .i64 0, .slice none 0 0, .slice none 0 0] 28)) = W0 at *
  go_loopw [8, 9] (fun lv iv wr => ∃ (L : List Int) (i f : Nat), iv = .int .i64 (i : Int) ∧ i ≤ b.length ∧ b.length ≤ i + f ∧ L.length ≤ 4096 ∧ Hid (OwnL .i64 3 wr (w.heap.size + 1) lv L) ∧ Below (w.heap.size + 1) W0 wr ∧ Hid (nmsV 3 b b.length [] (x + 1) = nmsV 3 b f L i)) (fun _ iv _ => b.length - (intOf iv).toNat)
  case atStart => exact ⟨[], x + 1, b.length, by go_num, by omega, by omega, by simp, hide (OwnL.nil _ _ _ _), Below.refl _ _, hide rfl⟩
  case round =>
    obtain ⟨L, i, f, rfl, hi, hf, hL, HO, hbr, HN⟩ := hrel
    have hsr := hbr.size
    have bw : Below w.heap.size w wr := hb0.trans (hbr.mono (Nat.le_succ _))
    have TZ : Tri wr w.heap.size (.int .i64 0) (.slice none 0 0) (.slice none 0 0) := ⟨(hbr.cell (by exact Nat.lt_succ_self _)).trans (unhide TH).p0, (hbr.cell (by exact Nat.lt_succ_self _)).trans (unhide TH).p1, (hbr.cell (by exact Nat.lt_succ_self _)).trans (unhide TH).p2⟩
    have f0 := frzO (i := 0) (unhide FH 0) hbr (Nat.lt_succ_self _)
    have f1 := frzO (i := 1) (unhide FH 1) hbr (Nat.lt_succ_self _)
    have f2 := frzO (i := 2) (unhide FH 2) hbr (Nat.lt_succ_self _)
    obtain ⟨z0, z1, z2⟩ := id TZ
    obtain ⟨a8, c8, rfl, -⟩ := (unhide HO).shape
    by_cases h1 : i < b.length
    · have hrr := (unhide HR).below bw
      have ci : wr.cell? ⟨g, off + i, none⟩ = some (.int .u8 (bt8 b i)) := by
        obtain ⟨g', off', e, hc'⟩ := hrr.byte h1
        cases e
        exact hc' i h1
      have h1' : (i : Int) < (b.length : Int) := by omega
      have hge : ¬ ((b.length : Int) ≤ (i : Int)) := by omega
      by_cases h2 : bt8 b i = 10
      · have HE := hide ((unhide HK).trans (by rw [unhide HN, nmsV_end (fun h => h.2 h2), mkL_ok h1]))
        rw [h2] at ci
        clear h2 HN HK hrr
        go_wp2
        change bodyPost _ _ _ _ _ (three wr w.heap.size (.int .i64 3) (.slice none 0 0) (.slice a8 L.length c8))
        have Z3 := TZ.set (.int .i64 3) (.slice none 0 0) (.slice a8 L.length c8)
        have b3 := three_below bw (b := w.heap.size) (Nat.le_refl _) (.int .i64 3) (.slice none 0 0) (.slice a8 L.length c8)
        have O3 := ownKeep (unhide HO) (.int .i64 3) (.slice none 0 0) (.slice a8 L.length c8)
        generalize three wr w.heap.size (.int .i64 3) (.slice none 0 0) (.slice a8 L.length c8) = w9 at *
        obtain ⟨q0, q1, q2⟩ := Z3
        refine bodyPost_ret (v := .tuple #[.agg #[.int .i64 3, .slice none 0 0, .slice a8 L.length c8], .int .i64 ((i : Int) + 1), .int .i64 (0)]) ?_ rfl ⟨.slice none 0 0, .slice a8 L.length c8, by rw [unhide HE]; try rfl, by rw [unhide HE]; exact OwnL.nil _ _ _ _, by rw [unhide HE]; exact O3, b3⟩
        simp [results, Try.results26, go_sem, q0, q1, q2]
      · have t10 : (bt8 b i != 10) = true := by simpa using h2
        by_cases h3 : bt8 b i = 32
        · have t32 : (bt8 b i != 32) = false := by simp [h3]
          by_cases h4 : L.length = 4096
          · have t58 : ((L.length : Int) == 4096) = true := by simp; omega
            have HE := hide ((unhide HK).trans (by rw [unhide HN, nmsV_long hf h1 h3 (by decide) h4, mkL_bad (by decide)]))
            clear h2 h3 HN HK hrr
            generalize bt8 b i = z at *
            go_wp2
            change bodyPost _ _ _ _ _ (three wr w.heap.size (.int .i64 0) (.slice none 0 0) (.slice none 0 0))
            have Z3 := TZ.set (.int .i64 0) (.slice none 0 0) (.slice none 0 0)
            have b3 := three_below bw (b := w.heap.size) (Nat.le_refl _) (.int .i64 0) (.slice none 0 0) (.slice none 0 0)
            generalize three wr w.heap.size (.int .i64 0) (.slice none 0 0) (.slice none 0 0) = w9 at *
            obtain ⟨q0, q1, q2⟩ := Z3
            refine bodyPost_ret (v := .tuple #[.agg #[.int .i64 0, .slice none 0 0, .slice none 0 0], .int .i64 ((i : Int)), .int .i64 (2)]) ?_ rfl ⟨.slice none 0 0, .slice none 0 0, by rw [unhide HE]; try rfl, by rw [unhide HE]; exact OwnL.nil _ _ _ _, by rw [unhide HE]; exact OwnL.nil _ _ _ _, b3⟩
            simp [results, Try.results26, go_sem, q0, q1, q2]
          · have t58 : ((L.length : Int) == 4096) = false := by simp; omega
            have hn : Calls Try.prog 37 #[.slice (some ⟨g, off, none⟩) b.length c, .int .i64 ((i : Int) + 1)] wr fun e w' => e = .returned (.tuple #[.int .i64 ((numV b (i + 1)).1 : Int), .int .i64 ((numV b (i + 1)).2.1 : Int), .int .i64 (numV b (i + 1)).2.2]) ∧ w' = wr := by
              have := rnumber_any (some ⟨g, off, none⟩) c b ((i + 1 : Nat) : Int) wr hrr (by omega)
              rw [nmV_at (show i + 1 ≤ b.length by omega)] at this
              exact this
            have hnx := numV_le (b := b) (i := i + 1) (by omega)
            by_cases h5 : (numV b (i + 1)).2.2 = 0
            · obtain ⟨g', rfl, hst⟩ := nmsV_step (kd := 3) hf h1 h3 (by decide) h4 h5
              have t70 : ((numV b (i + 1)).2.2 != 0) = false := by simp [h5]
              have HS := hide ((unhide HN).trans hst)
              clear h2 h3 hst h5 HN
              generalize bt8 b i = z at *
              generalize (numV b (i + 1)).2.2 = e9 at *
              generalize (numV b (i + 1)).2.1 = nx at *
              generalize ((numV b (i + 1)).1 : Int) = n9 at *
              go_wp2_with fail
              refine hn.mono ?_
              rintro e w' ⟨rfl, rfl⟩
              have hb5 : Below (w.heap.size + 1) w' (w'.alloc (.cells #[.int .i64 n9] 3)) := (Below.refl _ _).alloc (by omega) _
              go_wp2_with (at_builtin; refine wpl_pushA eInt rfl (.tmp 74) (.tmp 76) rfl (w.heap.size + 1) (.slice a8 L.length c8) L rfl ((unhide HO).alloc _) ⟨w'.heap.size, 0, none⟩ 1 [n9] rfl (RdL.one _ _) (by simp only [List.length_cons, List.length_nil]; omega) (by simp; omega) ?_; intro v3 w3 ho3 hb3 _ _)
              exact ⟨⟨L ++ [n9], nx, g', rfl, by omega, by omega, by simp; omega, hide ho3, (hbr.trans hb5).trans hb3, HS⟩, by simp [intOf]; omega⟩
            · have t70 : ((numV b (i + 1)).2.2 != 0) = true := by simpa using h5
              have HE := hide ((unhide HK).trans (by rw [unhide HN, nmsV_num hf h1 h3 (by decide) h4 h5, mkL_bad h5]))
              clear h2 h3 h5 HN HK hrr
              generalize bt8 b i = z at *
              generalize (numV b (i + 1)).2.2 = e9 at *
              generalize (numV b (i + 1)).2.1 = nx at *
              generalize ((numV b (i + 1)).1 : Int) = n9 at *
              go_wp2_with fail
              refine hn.mono ?_
              rintro e w' ⟨rfl, rfl⟩
              go_wp2
              change bodyPost _ _ _ _ _ (three w' w.heap.size (.int .i64 0) (.slice none 0 0) (.slice none 0 0))
              have Z3 := TZ.set (.int .i64 0) (.slice none 0 0) (.slice none 0 0)
              have b3 := three_below bw (b := w.heap.size) (Nat.le_refl _) (.int .i64 0) (.slice none 0 0) (.slice none 0 0)
              generalize three w' w.heap.size (.int .i64 0) (.slice none 0 0) (.slice none 0 0) = w9 at *
              obtain ⟨q0, q1, q2⟩ := Z3
              refine bodyPost_ret (v := .tuple #[.agg #[.int .i64 0, .slice none 0 0, .slice none 0 0], .int .i64 ((nx : Int)), .int .i64 (e9)]) ?_ rfl ⟨.slice none 0 0, .slice none 0 0, by rw [unhide HE]; try rfl, by rw [unhide HE]; exact OwnL.nil _ _ _ _, by rw [unhide HE]; exact OwnL.nil _ _ _ _, b3⟩
              simp [results, Try.results26, go_sem, q0, q1, q2]
        · have t32 : (bt8 b i != 32) = true := by simpa using h3
          have HE := hide ((unhide HK).trans (by rw [unhide HN, nmsV_form hf h1 h2 (.inr h3), mkL_bad (by decide)]))
          clear h2 h3 HN HK hrr
          generalize bt8 b i = z at *
          go_wp2
          change bodyPost _ _ _ _ _ (three wr w.heap.size (.int .i64 0) (.slice none 0 0) (.slice none 0 0))
          have Z3 := TZ.set (.int .i64 0) (.slice none 0 0) (.slice none 0 0)
          have b3 := three_below bw (b := w.heap.size) (Nat.le_refl _) (.int .i64 0) (.slice none 0 0) (.slice none 0 0)
          generalize three wr w.heap.size (.int .i64 0) (.slice none 0 0) (.slice none 0 0) = w9 at *
          obtain ⟨q0, q1, q2⟩ := Z3
          refine bodyPost_ret (v := .tuple #[.agg #[.int .i64 0, .slice none 0 0, .slice none 0 0], .int .i64 ((i : Int)), .int .i64 (6)]) ?_ rfl ⟨.slice none 0 0, .slice none 0 0, by rw [unhide HE]; try rfl, by rw [unhide HE]; exact OwnL.nil _ _ _ _, by rw [unhide HE]; exact OwnL.nil _ _ _ _, b3⟩
          simp [results, Try.results26, go_sem, q0, q1, q2]
    · obtain rfl : i = b.length := by omega
      have HE := hide ((unhide HK).trans (by rw [unhide HN, nmsV_end (fun h => h1 h.1), mkL_end]))
      clear HN HK
      go_wp2
      change bodyPost _ _ _ _ _ (three wr w.heap.size (.int .i64 0) (.slice none 0 0) (.slice none 0 0))
      have Z3 := TZ.set (.int .i64 0) (.slice none 0 0) (.slice none 0 0)
      have b3 := three_below bw (b := w.heap.size) (Nat.le_refl _) (.int .i64 0) (.slice none 0 0) (.slice none 0 0)
      generalize three wr w.heap.size (.int .i64 0) (.slice none 0 0) (.slice none 0 0) = w9 at *
      obtain ⟨q0, q1, q2⟩ := Z3
      refine bodyPost_ret (v := .tuple #[.agg #[.int .i64 0, .slice none 0 0, .slice none 0 0], .int .i64 ((b.length : Int)), .int .i64 (6)]) ?_ rfl ⟨.slice none 0 0, .slice none 0 0, by rw [unhide HE]; try rfl, by rw [unhide HE]; exact OwnL.nil _ _ _ _, by rw [unhide HE]; exact OwnL.nil _ _ _ _, b3⟩
      simp [results, Try.results26, go_sem, q0, q1, q2]

set_option maxRecDepth 100000 in
set_option maxHeartbeats 4000000 in
theorem rline_k0 (a : Option Addr) (c : Nat) (b : List UInt8) (x : Nat) (w : World) (hr : RdL .u8 w a (zs b)) (hx : x < b.length) (_ : b.length ≤ 16777216) (hz : bt8 b x ≠ 111 ∧ bt8 b x ≠ 121 ∧ bt8 b x ≠ 110) :
    Calls Try.prog 26 #[.slice a b.length c, .int .i64 (x : Int)] w (LnPost w (lineV b x)) := by
  have hb0 : Below w.heap.size w (w.alloc (.cells #[.int .i64 0, .slice none 0 0, .slice none 0 0] 28)) := (Below.refl _ _).alloc (Nat.le_refl _) _
  have T0 : Tri (w.alloc (.cells #[.int .i64 0, .slice none 0 0, .slice none 0 0] 28)) w.heap.size (.int .i64 0) (.slice none 0 0) (.slice none 0 0) := ⟨by simp, by simp, by simp⟩
  have F0 : ∀ i, (w.alloc (.cells #[.int .i64 0, .slice none 0 0, .slice none 0 0] 28)).frozen? ⟨w.heap.size, i, none⟩ = false := fun i => by rw [frozen?_alloc_cells]; exact frzN w (Nat.le_refl _)
  obtain ⟨g, off, rfl, hc⟩ := (hr.below hb0).byte hx
  have hcx := hc x hx
  have hx' : (x : Int) < (b.length : Int) := by omega
  have HR := hide hr
  clear hr hc
  have HE := hide (show lineV b x = (an0, (x : Int), 6) by unfold lineV kdB; rw [if_neg hz.2.2, if_neg hz.2.1, if_neg hz.1]; rfl)
  generalize bt8 b x = z at *
  have t1 : (z == 111) = false := by simpa using hz.1
  have t2 : (z == 121) = false := by simpa using hz.2.1
  have t3 : (z == 110) = false := by simpa using hz.2.2
  clear hz
  have f0 := F0 0
  have f1 := F0 1
  have f2 := F0 2
  obtain ⟨z0, z1, z2⟩ := id T0
  have TZ := T0
  have bw := hb0
  go_enter Try.func26, Try.ntmps26
  go_wp2
  obtain ⟨q0, q1, q2⟩ := id TZ
  refine bodyPost_ret (v := .tuple #[.agg #[.int .i64 0, .slice none 0 0, .slice none 0 0], .int .i64 (x : Int), .int .i64 6]) ?_ rfl ⟨.slice none 0 0, .slice none 0 0, by rw [unhide HE]; rfl, by rw [unhide HE]; exact OwnL.nil _ _ _ _, by rw [unhide HE]; exact OwnL.nil _ _ _ _, bw⟩
  simp [results, Try.results26, go_sem, q0, q1, q2]

theorem rline_any (a : Option Addr) (c : Nat) (b : List UInt8) (x : Nat) (w : World) (hr : RdL .u8 w a (zs b)) (hx : x < b.length) (hl : b.length ≤ 16777216) :
    Calls Try.prog 26 #[.slice a b.length c, .int .i64 (x : Int)] w (LnPost w (lineV b x)) := by
  by_cases h1 : bt8 b x = 111
  · exact rline_k1 a c b x w hr hx hl h1
  by_cases h2 : bt8 b x = 121
  · exact rline_k2 a c b x w hr hx hl h2
  by_cases h3 : bt8 b x = 110
  · exact rline_k3 a c b x w hr hx hl h3
  exact rline_k0 a c b x w hr hx hl ⟨h1, h2, h3⟩

end Go.Proofs.Ytagoilabphmdfaa
