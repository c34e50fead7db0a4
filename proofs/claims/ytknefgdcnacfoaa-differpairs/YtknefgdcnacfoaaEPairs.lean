/-
  The law DifferPairs, walked: it returns true, whatever the input.
-/
import Derived.Test.YtknefgdcnacfoaaEStates
import Derived.Test.YtknefgdcnacfoaaK16
import Derived.Test.YtknefgdcnacfoaaLsts
import Derived.Test.YtknefgdcnacfoaaK1
namespace Go.Proofs.Ytknefgdcnacfoaa
open Go.RowKit

theorem prS_mem {f : Nat → Nat → Option (List Int)} {s t : Nat} {L : List (List Int)} {l : List Int} (h : l ∈ prS f s t L) : l ∈ L ∨ f s t = some l := by
  cases e : f s t with
  | none => rw [prS_none e] at h; exact .inl h
  | some w =>
    by_cases hm : w ∈ L
    · rw [prS_old e hm] at h; exact .inl h
    · rw [prS_new e hm] at h
      rcases List.mem_append.1 h with h | h
      · exact .inl h
      · rw [List.mem_singleton] at h; exact .inr (by rw [h])
theorem prRow_mem {f : Nat → Nat → Option (List Int)} {s : Nat} {l : List Int} : ∀ (j : Nat) {L : List (List Int)}, l ∈ prRow f s j L → l ∈ L ∨ ∃ t, t < s + 1 + j ∧ f s t = some l
  | 0, L, h => .inl h
  | j + 1, L, h => by
    rcases prS_mem (show l ∈ prS f s (s + 1 + j) (prRow f s j L) from h) with h | h
    · rcases prRow_mem j h with h | ⟨t, ht, e⟩
      · exact .inl h
      · exact .inr ⟨t, by omega, e⟩
    · exact .inr ⟨s + 1 + j, by omega, h⟩
theorem prAll_mem {f : Nat → Nat → Option (List Int)} {N : Nat} {l : List Int} : ∀ (s : Nat), s ≤ N → l ∈ prAll f N s → ∃ s t, s < N ∧ t < N ∧ f s t = some l
  | 0, _, h => by cases h
  | s + 1, hs, h => by
    rcases prRow_mem _ (show l ∈ prRow f s (N - (s + 1)) (prAll f N s) from h) with h | ⟨t, ht, e⟩
    · exact prAll_mem s (by omega) h
    · exact ⟨s, t, by omega, by omega, e⟩
theorem prV_short {m : Mc} {f : Nat → Nat → Option (List Int)} (hf : PrF m f) {l : List Int} (h : l ∈ (prV m f).1) : l.length ≤ 1024 := by
  by_cases hz : (mchV m).2 = 0
  · have R := right_of hz
    have n0 := R.n0
    have n1 := R.n1
    rw [prV_ok hz] at h
    obtain ⟨s, t, hs, ht, e⟩ := prAll_mem _ (Nat.le_refl _) h
    have h1 := hf s t (by omega) (by omega)
    rw [e] at h1
    have := sep_short R (by omega) (by omega) (by omega) (by omega) (show IsF m m s t l from h1)
    omega
  · rw [prV_err hz] at h; cases h
theorem prV_few {m : Mc} {f : Nat → Nat → Option (List Int)} (hn : m.n ≤ 14) : (prV m f).1.length ≤ 196 := by
  by_cases hz : (mchV m).2 = 0
  · rw [prV_ok hz]
    have h1 := prAll_len f m.n.toNat m.n.toNat
    have h2 : m.n.toNat * m.n.toNat ≤ 14 * 14 := Nat.mul_le_mul (by omega) (by omega)
    show (prAll f m.n.toNat m.n.toNat).length ≤ 196
    omega
  · rw [prV_err hz]; exact Nat.zero_le _
theorem lls_lists {w : World} {B B' : Nat} {v v' : Value} {us us' : Nat → Value} {V : List (List Int)} (h : LLs w B v us V) (h' : LLs w B' v' us' V) (hN : V.length ≤ maxLen) :
    Calls Try.prog 21 #[v, v'] w fun e w' => e = .returned (.bool true) ∧ Below w.heap.size w w' := by
  obtain ⟨a, c, rfl, r⟩ := h.rdx
  obtain ⟨a', c', rfl, r'⟩ := h'.rdx
  refine lists_any a a' V.length c c' us us' (nsV V) (fsV V) w r r' hN fun i hi => ?_
  have o1 : OwnL .i64 3 w B (us i) (V.getD i []) := list_of_own (h.fam.own i hi)
  have o2 : OwnL .i64 3 w B' (us' i) (V.getD i []) := list_of_own (h'.fam.own i hi)
  obtain ⟨x, y, e1, -, l1, m1, r1, -⟩ := o1.shape
  obtain ⟨x', y', e2, -, -, -, r2, -⟩ := o2.shape
  exact ⟨x, y, x', y', e1, r1, e2, r2, by show (V.getD i []).length ≤ maxLen; omega⟩

set_option maxRecDepth 100000 in
set_option maxHeartbeats 2000000 in
theorem differPairs_walkC (C : DCtr) (CP : PrsC) (m : Mc) (a1 : Option Addr) (c1 : Nat) (a2 : Option Addr) (c2 : Nat) (w : World) (h0 : ArgM w m a1 c1 a2 c2) :
    Calls Try.prog 5 #[mval m a1 c1 a2 c2] w fun e w' => e = .returned (.bool true) ∧ Below w.heap.size w w' := by
  unfold mval
  have B0 := Box.alloc w m a1 c1 a2 c2 24
  have b0 := ballo w (.cells #[.int .i64 m.kind, .int .i64 m.k, .int .i64 m.o, .int .i64 m.n, .slice a1 m.nx.length c1, .slice a2 m.out.length c2] 24)
  cases hbig : bigB 14 m
  rotate_left
  · go_enter Try.func5, Try.ntmps5
    go_wp2_with fail
    refine (big_any 14 m a1 c1 a2 c2 _).mono ?_
    rw [hbig]
    rintro e w1 ⟨rfl, hb1⟩
    have b1 := bstep b0 hb1
    go_wp2_with (go_at_call 9; refine (live_any C _).mono ?_; rintro e wl ⟨rfl, hbl⟩)
    go_ret
    exact ⟨rfl, bstep b1 hbl⟩
  obtain ⟨n14, ln, lo⟩ := big_bounds hbig
  have HM := hide (h0.ma ln lo (by omega))
  obtain ⟨f, hf⟩ := pr_ex m
  have HF := hide hf
  have HN := hide n14
  clear hf n14
  go_enter Try.func5, Try.ntmps5
  go_wp2_with fail
  refine (big_any 14 m a1 c1 a2 c2 _).mono ?_
  rw [hbig]
  rintro e w1 ⟨rfl, hb1⟩
  have b1 := bstep b0 hb1
  have B1 := B0.below hb1
  obtain ⟨p0, p1, p2, p3, p4, p5⟩ := id B1
  clear hb1 B0 b0 hbig
  have HC := hide (CP m a1 c1 a2 c2 w1 f ((unhide HM).below b1) (unhide HF))
  unfold mval at HC
  go_wp2_with fail
  refine (unhide HC).mono ?_
  rintro e w2 ⟨v, us, rfl, hv, hb2⟩
  obtain ⟨av, cv, ev, -⟩ := hv.rdx
  subst ev
  have b2 := bstep b1 hb2
  have B2 := B1.below hb2
  have hz1 := b1.size
  have hz2 := hb2.size
  clear p0 p1 p2 p3 p4 p5 hb2 B1 b1 HC
  obtain ⟨p0, p1, p2, p3, p4, p5⟩ := id B2
  have HC := hide (rpairs_any m a1 c1 a2 c2 w2 f ((unhide HM).below b2).r1 ((unhide HM).below b2).r2 (unhide HM).m1 (unhide HM).m2 (unhide HF))
  unfold mval at HC
  go_wp2_with fail
  refine (unhide HC).mono ?_
  rintro e w3 ⟨v', us', rfl, hv', hb3⟩
  obtain ⟨av', cv', ev', -⟩ := hv'.rdx
  subst ev'
  have b3 := bstep b2 hb3
  have hv := hv.below hb3
  have hz3 := hb3.size
  have te := self_eq (prV m f).2
  have hfew := prV_few (f := f) (unhide HN)
  have hsh : Hid (∀ i, i < (prV m f).1.length → ((prV m f).1.getD i []).length ≤ 1024) := fun i hi => prV_short (unhide HF) (gd_memα hi)
  clear p0 p1 p2 p3 p4 p5 hb3 B2 b2 HC
  generalize (prV m f).2 = E at *
  generalize (prV m f).1 = V at *
  have HS := hide (lls_lists hv hv' (by unfold maxLen; omega))
  have HV := hide hv
  clear hv hv'
  go_wp2_with fail
  refine (unhide HS).mono ?_
  rintro e w4 ⟨rfl, hb4⟩
  have b4 := bstep b3 hb4
  have hv := (unhide HV).below hb4
  have hz4 := hb4.size
  have HA := hide (apart_any w1.heap.size V.length _ us (nsV V) (fsV V) w4 hv.out hv.fam hv.ap (by omega) (by omega) fun i hi => by have := unhide hsh i hi; unfold nsV; omega)
  clear hb4 b3 HS HV hv
  go_wp2_with (go_at_call 15; refine (num_any _ _).mono ?_; rintro e w' ⟨rfl, hw'⟩; subst w')
  refine (unhide HA).mono ?_
  rintro e w5 ⟨rfl, hb5⟩
  have b5 := b4.trans (hb5.mono hz1)
  clear hb5 HA b4
  go_wp2_with (go_at_call 9; refine (live_any C _).mono ?_; rintro e wl ⟨rfl, hbl⟩)
  go_ret
  exact ⟨rfl, bstep b5 hbl⟩
end Go.Proofs.Ytknefgdcnacfoaa
