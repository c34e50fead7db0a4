/-
  What the program's newOrder and add do: a row of states in memory with a map of their places.
-/
import Derived.Test.YtdlcbjbcehpooaaSeqAt
import Derived.Test.YtdlcbjbcehpooaaTReach
import Derived.Test.YtdlcbjbcehpooaaMCheck2
import Derived.Maps.OwnSet
import Derived.Maps.OwnOps
namespace Go.Proofs.Ytdlcbjbcehpooaa
open Go.RowKit Go.Maps

theorem keyed64 : Keyed Try.prog 3 := int_keyed Try.underlying3
theorem zeroInt (w : World) : (zeroValue 3).run Try.prog w = .ok (.int .i64 0) w := Try.zeroValue3 w
theorem key64 {x : Int} (h0 : -1099511627776 ≤ x) (h1 : x ≤ 1099511627776) : keyOf Try.prog 3 (.int .i64 x) = some (.int .i64 x) := keyOf_int_mk Try.underlying3 (WalkArith.wf_i64 (by omega))
theorem lit_ne {r x : Int} (h : r ≠ x) : (Lit.int .i64 r) ≠ Lit.int .i64 x := by intro e; cases e; exact h rfl

/-- The map says of each state of S its place. -/
def Says (D : DataW Unit) (S : List Int) : Prop :=
  ∀ r, Maps.has D (.int .i64 r) = decide (r ∈ S) ∧ (r ∈ S → D.atKey (.int .i64 r) (.lit (.int .i64 0)) = .lit (.int .i64 (S.idxOf r : Nat)))
def NMap (w : World) (b : Nat) (S : List Int) : Prop :=
  ∃ (n : Nat) (D : DataW Unit), w.ownsMap Try.prog 3 (plainElem Try.prog 3) b n D ∧ n ≤ S.length ∧ Says D S
theorem Says.nil : Says (.map []) [] := fun r => ⟨by simp [Maps.has], fun h => by simp at h⟩
theorem Says.new {D : DataW Unit} {S : List Int} {x : Int} (h : Says D S) (hx : ¬ x ∈ S) (hD : IsMap D) (hk : WideAt.IsKeyLit (.int .i64 x)) :
    Says (D.put (.int .i64 x) (.lit (.int .i64 S.length))) (S ++ [x]) := by
  intro r
  obtain ⟨h1, h2⟩ := h r
  by_cases e : x = r
  · subst e
    rw [has_put_same hD hk, atKey_put_same hD hk]
    refine ⟨by simp, fun _ => ?_⟩
    rw [List.idxOf_append, if_neg hx]
    simp
  · rw [has_put_other (lit_ne (Ne.symm e)), atKey_put_other (lit_ne (Ne.symm e)), h1]
    have e2 : r ∈ S ++ [x] ↔ r ∈ S := by simp; intro h; exact absurd h.symm e
    refine ⟨by simp only [e2], fun h3 => ?_⟩
    have h4 := e2.1 h3
    rw [h2 h4, List.idxOf_append, if_pos h4]
theorem NMap.keep {w w' : World} {b : Nat} {S : List Int} (h : NMap w b S) (e : w'.heap[b]? = w.heap[b]?) : NMap w' b S := by
  obtain ⟨n, D, ⟨es, clock, hb, F, hs, hD⟩, hn, hsay⟩ := h
  exact ⟨n, D, ⟨es, clock, e.trans hb, F, hs, hD⟩, hn, hsay⟩
theorem NMap.lt {w : World} {b : Nat} {S : List Int} (h : NMap w b S) : b < w.heap.size := by
  obtain ⟨n, D, ho, _, _⟩ := h
  exact ho.lt
theorem NMap.below {w w' : World} {b : Nat} {S : List Int} (h : NMap w b S) (hb : Below w.heap.size w w') : NMap w' b S := h.keep (hb.block b h.lt)

/-- A row of states and their places, in block b. -/
structure Ord (w : World) (B b g : Nat) (v : Value) (S : List Int) : Prop where
  c0 : w.cell? ⟨b, 0, none⟩ = some v
  c1 : w.cell? ⟨b, 1, none⟩ = some (.map (some g))
  f0 : w.frozen? ⟨b, 0, none⟩ = false
  f1 : w.frozen? ⟨b, 1, none⟩ = false
  own : OwnL .i64 3 w B v S
  map : NMap w g S
  bg : b ≠ g
  vb : v.ownBlock ≠ some b
  vg : v.ownBlock ≠ some g
  Bb : B ≤ b
  Bg : B ≤ g

theorem newOrder_any (w : World) : Calls Try.prog 41 #[] w fun e w' => e = .returned (.agg #[.slice none 0 0, .map (some (w.heap.size + 1))]) ∧ NMap w' (w.heap.size + 1) [] ∧ Below w.heap.size w w' ∧ w'.heap.size = w.heap.size + 2 := by
  have hmm := @run_makeMap Try.prog
  go_enter Try.func41, Try.ntmps41
  go_wp2
  have hN : NMap ((w.alloc (.cells #[.slice none 0 0, .map (some (w.heap.size + 1))] 58)).alloc (.map #[] 0)) (w.heap.size + 1) [] := by
    have := World.ownsMap_made (H := Unit) (w.alloc (.cells #[.slice none 0 0, .map (some (w.heap.size + 1))] 58)) Try.prog 3 (plainElem Try.prog 3)
    rw [World.size_alloc] at this
    exact ⟨0, _, this, Nat.zero_le _, Says.nil⟩
  refine bodyPost_ret (v := .agg #[.slice none 0 0, .map (some (w.heap.size + 1))]) ?_ rfl ⟨rfl, hN, bstep (ballo _ _) (ballo _ _), by simp⟩
  simp [results, Try.results41, go_sem]

theorem add_old (b g : Nat) (v : Value) (S : List Int) (B : Nat) (s : Int) (w : World) (h : Ord w B b g v S) (hs : s ∈ S) (s0 : -1099511627776 ≤ s) (s1 : s ≤ 1099511627776) :
    Calls Try.prog 42 #[.pointer (some ⟨b, 0, none⟩), .int .i64 s] w fun e w' => e = .returned (.bool false) ∧ w' = w := by
  obtain ⟨c0, c1, f0, f1, hown, ⟨n, D, hm, hn, hsay⟩, bg, vb, vg, Bb, Bg⟩ := h
  have hkey := key64 s0 s1
  have hhas : Maps.has D (.int .i64 s) = true := by rw [(hsay s).1]; simpa using hs
  clear hown
  go_enter Try.func42, Try.ntmps42
  go_wp2_with (at_lookup; refine wpList_lookup_own_ok_int _ rfl _ _ 56 rfl 3 3 .i64 keyed64 Try.underlying56 Try.underlying3 (zeroInt _) g n D rfl hm _ _ rfl hkey ?_; intro cc hat hwc; rw [hhas])
  go_ret
  exact ⟨rfl, rfl⟩

/-- What add leaves where the state is new. -/
def AddPost (w : World) (B b g : Nat) (v : Value) (S : List Int) (s : Int) (e : Ending) (w' : World) : Prop :=
  e = .returned (.bool true) ∧ (∃ v', Ord w' B b g v' (S ++ [s]) ∧ (∀ i, v'.ownBlock = some i → v.ownBlock = some i ∨ w.heap.size ≤ i)) ∧ Below B w w' ∧ ∀ i, i < w.heap.size → i ≠ b → i ≠ g → v.ownBlock ≠ some i → w'.heap[i]? = w.heap[i]?

set_option maxHeartbeats 1000000 in
theorem add_new (b g : Nat) (v : Value) (S : List Int) (B : Nat) (s : Int) (w : World) (h : Ord w B b g v S) (hs : ¬ s ∈ S) (hl : S.length ≤ 100000) (s0 : -1099511627776 ≤ s) (s1 : s ≤ 1099511627776) :
    Calls Try.prog 42 #[.pointer (some ⟨b, 0, none⟩), .int .i64 s] w fun e w' => AddPost w B b g v S s e w' := by
  obtain ⟨c0, c1, f0, f1, hown, ⟨n, D, hm, hn, hsay⟩, bg, vb, vg, Bb, Bg⟩ := h
  have hkey := key64 s0 s1
  have hhas : Maps.has D (.int .i64 s) = false := by rw [(hsay s).1]; simpa using hs
  obtain ⟨av, cv, rfl, hnil, hlc, hcm, hrd, hab⟩ := hown.shape
  obtain ⟨w1, hrun, hm1, hg1⟩ := hm.drew.update keyed64 Try.underlying56 (by unfold maxLen; omega) hkey (plainElem_int Try.underlying3 (WalkArith.wf_i64 (n := (S.length : Int)) (by omega)))
  have hsy := hsay.new hs hm.isMap (keyed64.key hkey)
  have k1 : ∀ i, i < w.heap.size → i ≠ g → w1.heap[i]? = w.heap[i]? := fun i hi hne => hg1.block i hi (by simpa using hne)
  have hbl := World.block_lt_of_cell? w _ c0
  have hgl := hm.lt
  have d0 : w1.cell? ⟨b, 0, none⟩ = some (.slice av S.length cv) := (World.cell?_of_block (k1 b hbl bg)).trans c0
  have d1 : w1.cell? ⟨b, 1, none⟩ = some (.map (some g)) := (World.cell?_of_block (k1 b hbl bg)).trans c1
  have e0 : w1.frozen? ⟨b, 0, none⟩ = false := by unfold World.frozen? at f0 ⊢; rw [k1 b hbl bg]; exact f0
  have e1 : w1.frozen? ⟨b, 1, none⟩ = false := by unfold World.frozen? at f1 ⊢; rw [k1 b hbl bg]; exact f1
  have hown1 : OwnL .i64 3 w1 B (.slice av S.length cv) S := hown.keep fun i e => k1 i (hown.lt e).2 (fun e2 => vg (by rw [← e2]; exact e))
  have HS := hide hsay
  clear hsay
  go_enter Try.func42, Try.ntmps42
  go_wp2_with (at_lookup; refine wpList_lookup_own_ok_int _ rfl _ _ 56 rfl 3 3 .i64 keyed64 Try.underlying56 Try.underlying3 (zeroInt _) g n D rfl hm _ _ rfl hkey ?_; intro cc hat hwc; rw [hhas])
  go_region
  have hb2 : b < w1.heap.size := World.block_lt_of_cell? w1 _ d0
  have hz1 := hg1.size
  go_wp2_with (at_builtin; refine wpl_pushA eInt rfl (.tmp 31) (.tmp 33) rfl B _ S rfl (hown1.alloc _) ⟨w1.heap.size, 0, none⟩ 1 [s] rfl (RdL.one _ s) (by simp; omega) (by simp; omega) ?_; intro v2 w2 hown2 hbl2 hg2 hat2; obtain ⟨a2, c2, hv2, -, -, -, -, -⟩ := hown2.shape; rw [show (S ++ [s]).length = S.length + 1 by simp] at hv2; subst hv2; have k2 : ∀ i, i < w1.heap.size → (Value.slice av S.length cv).ownBlock ≠ some i → w2.heap[i]? = w1.heap[i]? := (fun i hi hne => (hg2.block i (by simp; omega) (fun e => hne e.symm)).trans (Below.heap_alloc _ _ _ hi)); have d0' : w2.cell? ⟨b, 0, none⟩ = some (.slice av S.length cv) := (World.cell?_of_block (k2 b hb2 vb)).trans d0; have d1' : w2.cell? ⟨b, 1, none⟩ = some (.map (some g)) := (World.cell?_of_block (k2 b hb2 vb)).trans d1; have e0' : w2.frozen? ⟨b, 0, none⟩ = false := (by unfold World.frozen? at e0 ⊢; rw [k2 b hb2 vb]; exact e0); have e1' : w2.frozen? ⟨b, 1, none⟩ = false := (by unfold World.frozen? at e1 ⊢; rw [k2 b hb2 vb]; exact e1))
  go_ret
  have hwb := World.block_lt_of_cell? w2 _ d0'
  have hz2 := hg2.size
  simp only [World.size_alloc] at hz2 hat2
  have hz1' : w.heap.size ≤ w1.heap.size := hz1
  have hvz : ∀ i, (Value.slice a2 (S.length + 1) c2).ownBlock = some i → (Value.slice av S.length cv).ownBlock = some i ∨ w1.heap.size ≤ i := fun i e => (hat2 i e).imp id fun h => by omega
  have hvb : (Value.slice a2 (S.length + 1) c2).ownBlock ≠ some b := fun e => (hvz b e).elim vb fun h => by omega
  have hvg : (Value.slice a2 (S.length + 1) c2).ownBlock ≠ some g := fun e => (hvz g e).elim vg fun h => by omega
  have hK : ∀ i, i ≠ b → (w2.setCell ⟨b, 0, none⟩ (.slice a2 (S.length + 1) c2)).heap[i]? = w2.heap[i]? := fun i hi => Below.heap_setCell _ _ _ _ (by simpa using hi)
  have hg1l := hm1.lt
  refine ⟨rfl, ⟨_, ⟨World.cell?_setCell_same _ _ _ d0', ?_, by rw [World.frozen?_setCell]; exact e0', by rw [World.frozen?_setCell]; exact e1', ?_, ?_, bg, hvb, hvg, Bb, Bg⟩, fun i e => (hvz i e).imp id fun h => by omega⟩, ?_, fun i hi hb hg hv => ?_⟩
  · rw [World.cell?_setCell_other (w := w2) (a := ⟨b, 0, none⟩) (b := ⟨b, 1, none⟩) (h := fun e => by cases e)]; exact d1'
  · exact hown2.keep fun i e => hK i fun e2 => hvb (e2 ▸ e)
  · have hN1 : NMap w1 g (S ++ [s]) := ⟨n + 1, _, hm1, by simp; omega, hsy⟩
    exact hN1.keep ((hK g (Ne.symm bg)).trans (k2 g hg1l vg))
  · have e1 : Below B w w1 := (Below.refl B w).grown (w' := w1) ⟨hg1.os, hg1.tape, hg1.output, hg1.size, hg1.block⟩ (by omega) fun i e => by cases e; exact Bg
    have e2 := e1.alloc (by omega) (.cells #[.int .i64 s] 3)
    exact (e2.trans hbl2).setCell (p := ⟨b, 0, none⟩) Bb _
  · rw [hK i hb, k2 i (by omega) hv]; exact k1 i hi hg

end Go.Proofs.Ytdlcbjbcehpooaa
