/-
  The program's reader of answers: the numbers of a line, its end.
-/
import Derived.Test.YtagoilabphmdfaaDoorTSr
import Derived.Test.YtagoilabphmdfaaDoorUTch
import Derived.Test.YtagoilabphmdfaaDoorK1
import Derived.BigQuiet
namespace Go.Proofs.YtagoilabphmdfaaDoor
open Go.RowKit

/-- Where a reader stands. -/
def atW (w : World) (sb : Nat) : Nat := match w.cell? ⟨sb, 1, none⟩ with
  | some (.int _ x) => x.toNat
  | _ => 0
theorem Sr.atW {w : World} {sb : Nat} {a : Option Addr} {c : Nat} {b : List UInt8} {i : Nat} (h : Sr w sb a c b i) : atW w sb = i := by
  unfold Go.Proofs.YtagoilabphmdfaaDoor.atW
  rw [h.p1]
  simp
/-- A reader's object while other memory grows. -/
theorem Sr.below {w w' : World} {sb : Nat} {a : Option Addr} {c : Nat} {b : List UInt8} {i : Nat} (h : Sr w sb a c b i) (hb : Below w.heap.size w w') : Sr w' sb a c b i := by
  have hlt := h.lt
  have ec : ∀ j, w'.cell? ⟨sb, j, none⟩ = w.cell? ⟨sb, j, none⟩ := fun j => hb.cell hlt
  refine ⟨(ec _).trans h.p0, (ec _).trans h.p1, ?_, h.rd.below hb, h.le, h.off⟩
  have := hb.block sb hlt
  have hf := h.fz
  unfold World.frozen? at hf ⊢
  rw [this]; exact hf
theorem RdL.blk {q : IntKind} {w : World} {a : Option Addr} {l : List Int} (h : RdL q w a l) (hl : 0 < l.length) : ∀ x, a = some x → x.block < w.heap.size := fun x hx => by
  rcases h with h | ⟨b, off, e, hc⟩
  · omega
  · have := World.block_lt_of_cell? w _ (hc 0 hl)
    rw [e] at hx; cases hx; exact this
theorem RdL.belowB {q : IntKind} {w w' : World} {a : Option Addr} {l : List Int} {B : Nat} (h : RdL q w a l) (hb : Below B w w') (hB : 0 < l.length → ∀ x, a = some x → x.block < B) : RdL q w' a l := by
  rcases h with h | ⟨b, off, rfl, hc⟩
  · exact .inl h
  · refine .inr ⟨b, off, rfl, fun i hi => ?_⟩
    exact (hb.cell (p := ⟨b, off + i, none⟩) (hB (by omega) ⟨b, off, none⟩ rfl)).trans (hc i hi)
theorem Sr.belowB {w w' : World} {sb : Nat} {a : Option Addr} {c : Nat} {b : List UInt8} {i B : Nat} (h : Sr w sb a c b i) (hb : Below B w w') (hs : sb < B) (hB : 0 < b.length → ∀ x, a = some x → x.block < B) : Sr w' sb a c b i := by
  have ec : ∀ j, w'.cell? ⟨sb, j, none⟩ = w.cell? ⟨sb, j, none⟩ := fun j => hb.cell hs
  refine ⟨(ec _).trans h.p0, (ec _).trans h.p1, ?_, h.rd.belowB hb (by rw [zs_len]; exact hB), h.le, h.off⟩
  have := hb.block sb hs
  have hf := h.fz
  unfold World.frozen? at hf ⊢
  rw [this]; exact hf
theorem Sr.blk {w : World} {sb : Nat} {a : Option Addr} {c : Nat} {b : List UInt8} {i : Nat} (h : Sr w sb a c b i) : 0 < b.length → ∀ x, a = some x → x.block < w.heap.size := fun h0 => h.rd.blk (by rw [zs_len]; exact h0)
theorem gr_below {w w1 w2 : World} {r : Option Nat} (h : w.grownBy w1 r) (hb : Below w1.heap.size w1 w2) : w.grownBy w2 r :=
  ⟨hb.os.trans h.os, hb.tape.trans h.tape, hb.output.trans h.output, Nat.le_trans h.size hb.size, fun i hi hne => (hb.block i (Nat.lt_of_lt_of_le hi h.size)).trans (h.block i hi hne)⟩
theorem gr_belowB {w w1 w2 : World} {r : Option Nat} {B : Nat} (h : w.grownBy w1 r) (hb : Below B w1 w2) (hB : w.heap.size ≤ B) : w.grownBy w2 r :=
  ⟨hb.os.trans h.os, hb.tape.trans h.tape, hb.output.trans h.output, Nat.le_trans h.size hb.size, fun i hi hne => (hb.block i (Nat.lt_of_lt_of_le hi hB)).trans (h.block i hi hne)⟩
theorem gr_trans {w w1 w2 : World} {r : Option Nat} (h : w.grownBy w1 r) (h' : w1.grownBy w2 r) : w.grownBy w2 r :=
  ⟨h'.os.trans h.os, h'.tape.trans h.tape, h'.output.trans h.output, Nat.le_trans h.size h'.size, fun i hi hne => (h'.block i (Nat.lt_of_lt_of_le hi h.size) hne).trans (h.block i hi hne)⟩
theorem below_gr {w w1 w2 : World} {B X : Nat} (h : Below B w w1) (h' : w1.grownBy w2 (some X)) (hX : B ≤ X) (hs : B ≤ w1.heap.size) : Below B w w2 :=
  ⟨h'.os.trans h.os, h'.tape.trans h.tape, h'.output.trans h.output, Nat.le_trans h.size h'.size, fun i hi => (h'.block i (Nat.lt_of_lt_of_le hi hs) (fun e => by injection e with e; omega)).trans (h.block i hi)⟩

theorem quietT {P : Program} {f : FuncId} {args : Array Value} {w : World} {k n : Nat} {v : Value} (h : Calls P f args (w.drewN (k + n)) fun e w' => e = .returned v ∧ w' = w.drewN (k + n)) :
    Calls P f args (w.drewN (k + n)) fun e w'' => e = .returned v ∧ ∃ m, w'' = w.drewN (k + m) := h.mono fun _ _ ⟨he, hm⟩ => ⟨he, n, hm⟩
/-- What a reader's step leaves: a list of its own, an error, where it stands. -/
def NmPost (w : World) (sb : Nat) (a : Option Addr) (c : Nat) (b : List UInt8) (r : List Int × Nat × Int) (e : Ending) (w' : World) : Prop :=
  ∃ v, e = .returned (.tuple #[v, .int .i64 r.2.2]) ∧ OwnL .i64 3 w' w.heap.size v r.1 ∧ Sr w' sb a c b r.2.1 ∧ w.grownBy w' (some sb)

set_option maxRecDepth 100000 in
set_option maxHeartbeats 4000000 in
theorem numbers_any (sb : Nat) (a : Option Addr) (c : Nat) (b : List UInt8) (i0 : Nat) (w : World) (h : Sr w sb a c b i0) (hi0 : i0 < b.length) (hb : b.length ≤ 16777216) :
    Calls Tryd.prog 26 #[.pointer (some ⟨sb, 0, none⟩)] w (NmPost w sb a c b (nmsP b b.length [] (i0 + 1))) := by
  have hsb := h.lt
  have HA := hide h.blk
  have HS1 := hide (Sr.set (j := i0 + 1) h (by omega))
  obtain ⟨p0, p1, pf, prd, ple, poff⟩ := id h
  go_enter Tryd.func26, Tryd.ntmps26
  go_wp2
  have hi1 : i0 + 1 ≤ b.length := hi0
  clear p0 p1 pf prd ple poff h hi0
  go_loopw [2] (fun lv wr => ∃ (L : List Int) (i f : Nat), i ≤ b.length ∧ b.length ≤ i + f ∧ L.length ≤ 4096 ∧ Hid (OwnL .i64 3 wr w.heap.size lv L) ∧ Hid (Sr wr sb a c b i) ∧ w.grownBy wr (some sb) ∧ Hid (nmsP b b.length [] (i0 + 1) = nmsP b f L i)) (fun _ wr => b.length - atW wr sb)
  case atStart => exact ⟨[], i0 + 1, b.length, hi1, by omega, by simp, hide (OwnL.nil _ _ _ _), HS1, gr_set (gr_refl _ _) _ _, hide rfl⟩
  case round =>
    obtain ⟨L, i, f, hi, hf, hL, HO, HS, hg, HN⟩ := hrel
    obtain ⟨p0, p1, pf, prd, ple, poff⟩ := id (unhide HS)
    obtain ⟨a8, c8, rfl, -⟩ := (unhide HO).shape
    have hat := (unhide HS).atW
    have hsr := hg.size
    by_cases h1 : i < b.length
    · have h1' : (i : Int) < (b.length : Int) := by omega
      obtain ⟨g, off, rfl, hc⟩ := prd.byte h1
      have hci := hc i h1
      clear hc
      by_cases h2 : bt8 b i = 32
      · have t2 : (bt8 b i == 32) = true := by simpa using h2
        by_cases h3 : L.length = 4096
        · have t3 : ((L.length : Int) == 4096) = true := by simp; omega
          have HE := hide ((unhide HN).trans (nmsP_long hf h1 h2 h3))
          clear h2 h3 HN
          generalize bt8 b i = z at *
          go_wp2
          go_quiet (fail)
          go_wp2
          go_ret2
          exact ⟨.slice none 0 0, by rw [unhide HE]; rfl, by rw [unhide HE]; exact OwnL.nil _ _ _ _, by rw [unhide HE]; exact (unhide HS).drewN _, gr_drewN hg _⟩
        · have t3 : ((L.length : Int) == 4096) = false := by simp; omega
          have hnum := fun wz (hz : Below wr.heap.size wr wz) => number_any (some ⟨g, off, none⟩) c b ((i : Int) + 1) wz (prd.below hz) (by omega)
          rw [show nmV b ((i : Int) + 1) = _ from nmV_at (b := b) (i := i + 1) (by omega)] at hnum
          have hnle := numV_le (b := b) (i := i + 1) (by omega)
          have hL3 : L.length < 4096 := by omega
          by_cases h4 : (numV b (i + 1)).2.2 = 0
          · have t4 : ((numV b (i + 1)).2.2 != 0) = false := by simp [h4]
            obtain ⟨f', rfl, hst⟩ := nmsP_step hf h1 h2 h3 h4
            have HE := hide ((unhide HN).trans hst)
            clear h2 h3 h4 HN hst
            generalize bt8 b i = z at *
            generalize ((numV b (i + 1)).1 : Int) = n9 at *
            generalize (numV b (i + 1)).2.1 = x9 at *
            generalize (numV b (i + 1)).2.2 = e9 at *
            go_wp2
            go_quiet (fail)
            go_wp2
            go_quiet ((go_at_call 31; with_reducible exact quietT (hnum _ (below_drewN (Below.refl _ _) _))))
            go_wp2_with (at_builtin; refine wpl_pushA eInt rfl (.tmp 61) (.tmp 63) rfl w.heap.size (.slice a8 L.length c8) L rfl (((unhide HO).gr (gr_set (gr_drewN (gr_refl _ (some sb)) _) _ _) hsb).alloc _) ⟨wr.heap.size, 0, none⟩ 1 [n9] rfl (by simpa using RdL.one (q := .i64) (t := 3) ((wr.drewN _).setCell ⟨sb, 1, none⟩ (.int .i64 (x9 : Int))) n9) (by simp only [List.length_cons, List.length_nil]; omega) (by simp; omega) ?_; intro v3 w3 ho3 hb3 _ _)
            have S3 := Sr.belowB ((((unhide HS).drewN _).set hnle.2).below (ballo _ _)) hb3 hsb (unhide HA)
            exact ⟨⟨L ++ [n9], x9, f', hnle.2, by omega, by simp; omega, hide ho3, hide S3, gr_belowB (gr_below (gr_set (gr_drewN hg _) _ _) (ballo _ _)) hb3 (Nat.le_refl _), HE⟩, by rw [hat, S3.atW]; omega⟩
          · have t4 := numV_ne h4
            have HE := hide ((unhide HN).trans (nmsP_num hf h1 h2 h3 h4))
            clear h2 h3 h4 HN
            generalize bt8 b i = z at *
            generalize ((numV b (i + 1)).1 : Int) = n9 at *
            generalize (numV b (i + 1)).2.1 = x9 at *
            generalize (numV b (i + 1)).2.2 = e9 at *
            go_wp2
            go_quiet (fail)
            go_wp2
            go_quiet ((go_at_call 31; with_reducible exact quietT (hnum _ (below_drewN (Below.refl _ _) _))))
            go_wp2
            go_ret2
            exact ⟨.slice none 0 0, by rw [unhide HE]; rfl, by rw [unhide HE]; exact OwnL.nil _ _ _ _, by rw [unhide HE]; exact ((unhide HS).drewN _).set hnle.2, gr_set (gr_drewN hg _) _ _⟩
      · have t2 : (bt8 b i == 32) = false := by simpa using h2
        have HE := hide ((unhide HN).trans (nmsP_end (fun h => h2 h.2)))
        clear h2 HN
        generalize bt8 b i = z at *
        go_wp2
        go_quiet (fail)
        go_wp2
        go_ret2
        exact ⟨_, by rw [unhide HE]; rfl, by rw [unhide HE]; exact (unhide HO).grown (below_drewN (Below.refl _ _) _), by rw [unhide HE]; exact (unhide HS).drewN _, gr_drewN hg _⟩
    · have h1' : ¬ ((i : Int) < (b.length : Int)) := by omega
      have HE := hide ((unhide HN).trans (nmsP_end (fun h => h1 h.1)))
      clear HN
      go_wp2
      go_quiet (fail)
      go_wp2
      go_ret2
      exact ⟨_, by rw [unhide HE]; rfl, by rw [unhide HE]; exact (unhide HO).grown (below_drewN (Below.refl _ _) _), by rw [unhide HE]; exact (unhide HS).drewN _, gr_drewN hg _⟩

set_option maxRecDepth 100000 in
set_option maxHeartbeats 4000000 in
theorem lineBreak_any (sb : Nat) (a : Option Addr) (c : Nat) (b : List UInt8) (i : Nat) (w : World) (h : Sr w sb a c b i) (hb : b.length ≤ 16777216) :
    Calls Tryd.prog 27 #[.pointer (some ⟨sb, 0, none⟩)] w fun e w' => e = .returned (.int .i64 (brkP b i).2) ∧ Sr w' sb a c b (brkP b i).1 ∧ w.grownBy w' (some sb) := by
  have HS := hide h
  obtain ⟨p0, p1, pf, prd, ple, poff⟩ := h
  by_cases h1 : i < b.length
  · have h1' : ((i : Int) == (b.length : Int)) = false := by simp; omega
    have h1'' : (i : Int) < (b.length : Int) := by omega
    obtain ⟨g, off, rfl, hc⟩ := prd.byte h1
    have hci := hc i h1
    clear hc
    by_cases h2 : bt8 b i = 10
    · have t2 : (bt8 b i != 10) = false := by simp [h2]
      have HE := hide (brkP_ok h1 h2)
      clear h2
      generalize bt8 b i = z at *
      go_enter Tryd.func27, Tryd.ntmps27
      go_wp2
      go_quiet (fail)
      go_wp2
      go_ret
      exact ⟨by rw [unhide HE]; rfl, by rw [unhide HE]; exact Sr.set (j := i + 1) ((unhide HS).drewN _) (show i + 1 ≤ b.length by omega), gr_set (gr_drewN (gr_refl _ _) _) _ _⟩
    · have t2 : (bt8 b i != 10) = true := by simpa using h2
      have HE := hide (brkP_no (b := b) (i := i) (fun h => h2 h.2))
      clear h2
      generalize bt8 b i = z at *
      go_enter Tryd.func27, Tryd.ntmps27
      go_wp2
      go_quiet (fail)
      go_wp2
      go_ret
      exact ⟨by rw [unhide HE]; rfl, by rw [unhide HE]; exact (unhide HS).drewN _, gr_drewN (gr_refl _ _) _⟩
  · have h1' : ((i : Int) == (b.length : Int)) = true := by simp; omega
    have HE := hide (brkP_no (b := b) (i := i) (fun h => h1 h.1))
    go_enter Tryd.func27, Tryd.ntmps27
    go_wp2
    go_quiet (fail)
    go_wp2
    go_ret
    exact ⟨by rw [unhide HE]; rfl, by rw [unhide HE]; exact (unhide HS).drewN _, gr_drewN (gr_refl _ _) _⟩

end Go.Proofs.YtagoilabphmdfaaDoor
