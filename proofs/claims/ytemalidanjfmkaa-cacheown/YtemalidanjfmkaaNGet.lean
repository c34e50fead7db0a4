/-
  The program's Get and Has.
-/
import Derived.Test.YtemalidanjfmkaaNSaid
namespace Go.Proofs.Ytemalidanjfmkaa
open Go.RowKit

/-- What is left behind a Get. -/
def getV (c : Cs) (wd : List Int) : Cs := match findV c wd with
  | some _ => { c with hits := c.hits + 1 }
  | none => { c with miss := c.miss + 1 }
def GtPost (B b g cap : Nat) (c : Cs) (R : List En) (wd : List Int) (w : World) (e : Ending) (w' : World) : Prop :=
  Co B w' b g cap (getV c wd) R ∧ Bx (fun j => j = b) w w' ∧ ∃ v, e = .returned (.tuple #[v, .bool (findV c wd).isSome]) ∧ OwnL .i64 3 w' w.heap.size v ((findV c wd).getD [])

set_option maxRecDepth 100000 in
set_option maxHeartbeats 2000000 in
theorem get_any {B : Nat} {w : World} {b g cap : Nat} {c : Cs} {R : List En} (a3 : Option Addr) (c3 : Nat) (wd : List Int) (h : Co B w b g cap c R) (hw : RdL .i64 w a3 wd) (hl : wd.length ≤ 1000000000) (h0 : 0 ≤ c.hits) (h1 : c.hits ≤ 1000000000) (m0 : 0 ≤ c.miss) (m1 : c.miss ≤ 1000000000) :
    Calls Try.prog 17 #[.pointer (some ⟨b, 0, none⟩), .slice a3 wd.length c3] w fun e w' => GtPost B b g cap c R wd w e w' := by
  have hmd := isMade_any h
  have hfi := find_any R c g cap a3 c3 wd w h.i h.row.1 hw hl
  have HH := hide h
  have c4 := h.c4
  clear h hw
  go_enter Try.func17, Try.ntmps17
  go_wp2_with fail
  refine hmd.mono ?_
  rintro e w1 ⟨rfl, rfl⟩
  go_wp2_with fail
  refine hfi.mono ?_
  rintro e w2 ⟨hb2, hor⟩
  have co := (unhide HH).below hb2
  clear hmd hfi c4
  rcases hor with ⟨hn, rfl⟩ | ⟨v, P, y, hy, rfl, hp, ho⟩
  · have c6 := co.c6
    have f6 := co.o.frz 6
    have HF : Hid (GtPost B b g cap c R wd w1 (.returned (.tuple #[.slice none 0 0, .bool false])) (w2.setCell ⟨b, 6, none⟩ (.int .i64 (c.miss + 1)))) := by
      refine ⟨?_, (Bx.setCell (X := fun j => j = b) (Bx.of hb2) (p := ⟨b, 6, none⟩) rfl _), ?_⟩
      · unfold getV; rw [hn]; exact co.missed _
      · rw [hn]; exact ⟨_, rfl, OwnL.nil _ _ _ _⟩
    clear hn co
    go_wp2
    go_ret2
    exact unhide HF
  · have c5 := co.c5
    have f5 := co.o.frz 5
    have co2 := co.hit (c.hits + 1)
    have hne : (w2.setCell ⟨b, 5, none⟩ (.int .i64 (c.hits + 1))).heap.size = w2.heap.size := by simp
    obtain ⟨av, cv, rfl, hnil, hcv, hcm, hrd, hblk⟩ := ho.shape
    rw [ni_len] at hnil hcv
    rw [ni_len]
    cases av with
    | none => have := hp.1.pos; have := hnil rfl; omega
    | some ad =>
      obtain ⟨ba, off, mm⟩ := ad
      obtain ⟨b', off', e', hc'⟩ := hrd.at (i := 0) (by rw [ni_len]; exact hp.1.pos)
      cases e'
      have hbb := hblk _ rfl
      have hblt := co.blt
      have hblt0 := (unhide HH).blt
      have hrd2 : RdL .i64 (w2.setCell ⟨b, 5, none⟩ (.int .i64 (c.hits + 1))) (some ⟨ba, off, none⟩) (ni P) := hrd.bx ((Bx.refl (fun j => j = b) w2).setCell (p := ⟨b, 5, none⟩) rfl _) fun x ex => by
        cases ex
        show ¬ ba = b
        have : w1.heap.size ≤ ba := hbb.1
        omega
      have hsd := said_any ba off cv wd P y co2 hrd2 hcv hcm hp hy hl
      have HF : Hid (∀ v w3, OwnL .i64 3 w3 (w2.setCell ⟨b, 5, none⟩ (.int .i64 (c.hits + 1))).heap.size v y → Below (w2.setCell ⟨b, 5, none⟩ (.int .i64 (c.hits + 1))).heap.size (w2.setCell ⟨b, 5, none⟩ (.int .i64 (c.hits + 1))) w3 → GtPost B b g cap c R wd w1 (.returned (.tuple #[v, .bool true])) w3) := fun v w3 hv hb3 => by
        refine ⟨?_, (Bx.setCell (X := fun j => j = b) (Bx.of hb2) (p := ⟨b, 5, none⟩) rfl _).trans (Bx.of (X := fun _ => False) hb3) (fun _ _ x => x.elim), ?_⟩
        · unfold getV; rw [hy]; exact co2.below hb3
        · rw [hy]; exact ⟨v, rfl, hv.mono (by rw [hne]; exact hb2.size)⟩
      clear hy hp hrd hrd2 hc' ho hblk hnil co co2 hcv hcm hne hbb
      go_wp2_with fail
      refine hsd.mono ?_
      rintro e w3 ⟨v, rfl, hv, hb3⟩
      have HG := hide (unhide HF v w3 hv hb3)
      clear hv hb3 HF hsd c5 f5
      go_wp2
      go_ret2
      exact unhide HG

theorem has_any {B : Nat} {w : World} {b g cap : Nat} {c : Cs} {R : List En} (a3 : Option Addr) (c3 : Nat) (wd : List Int) (h : Co B w b g cap c R) (hw : RdL .i64 w a3 wd) (hl : wd.length ≤ 1000000000) :
    Calls Try.prog 20 #[.pointer (some ⟨b, 0, none⟩), .slice a3 wd.length c3] w fun e w' => e = .returned (.bool (findV c wd).isSome) ∧ Below w.heap.size w w' := by
  have hmd := isMade_any h
  have hfi := find_any R c g cap a3 c3 wd w h.i h.row.1 hw hl
  have c4 := h.c4
  clear h hw
  go_enter Try.func20, Try.ntmps20
  go_wp2_with fail
  refine hmd.mono ?_
  rintro e w1 ⟨rfl, rfl⟩
  go_wp2_with fail
  refine hfi.mono ?_
  rintro e w2 ⟨hb2, hor⟩
  clear hmd hfi c4
  rcases hor with ⟨hn, rfl⟩ | ⟨v, P, y, hy, rfl, hp, ho⟩
  · have HE := hide (show (findV c wd).isSome = false by rw [hn]; rfl)
    clear hn
    go_wp2
    go_ret
    exact ⟨by rw [unhide HE]; rfl, hb2⟩
  · have HE := hide (show (findV c wd).isSome = true by rw [hy]; rfl)
    clear hy hp ho
    go_wp2
    go_ret
    exact ⟨by rw [unhide HE]; rfl, hb2⟩

end Go.Proofs.Ytemalidanjfmkaa
