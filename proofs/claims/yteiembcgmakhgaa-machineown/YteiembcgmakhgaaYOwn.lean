/-
  The law MachineOwn, walked: it returns true, whatever the table and the list.
-/
import Derived.Test.YteiembcgmakhgaaYChecks
import Derived.Test.YteiembcgmakhgaaApartW
namespace Go.Proofs.Yteiembcgmakhgaa
open Go.RowKit

theorem OwnL.own {w : World} {B : Nat} {v : Value} {l : List Int} (h : OwnL .i64 3 w B v l) : Own w B v l.length (fun i => l.getD i 0) := by
  unfold Own
  have e : cellsOf l.length (fun i => l.getD i 0) = l.map (Value.int .i64) := by
    refine List.ext_getElem? fun i => ?_
    by_cases hi : i < l.length
    · rw [cellsOf_get hi, map_getD hi]
    · rw [List.getElem?_eq_none (by rw [length_cellsOf]; omega), List.getElem?_eq_none (by rw [List.length_map]; omega)]
  rw [e]; exact h
def duo (u v : Value) (i : Nat) : Value := if i = 0 then u else v
theorem OwnV.two (w : World) (B : Nat) (u v : Value) (hb : B ≤ w.heap.size) : OwnV (w.alloc (.cells #[u, v] 22)) B (.slice (some ⟨w.heap.size, 0, none⟩) 2 2) 2 (duo u v) := by
  unfold OwnV
  have e : cellsV 2 (duo u v) = (#[u, v] : Array Value).toList := rfl
  rw [e]
  exact World.ownsRow_lit w #[u, v] 2 hb (by unfold maxLen; simp) rfl
theorem RdL.later {q : IntKind} {w0 w w' : World} {B : Nat} {a : Option Addr} {l : List Int} (h0 : RdL q w0 a l) (hs : w0.heap.size ≤ B) (h : RdL q w a l) (hb : Below B w w') : RdL q w' a l := by
  rcases h0 with h1 | ⟨b, off, rfl, hc⟩
  · exact .inl h1
  · refine .inr ⟨b, off, rfl, fun i hi => ?_⟩
    have hlt := World.block_lt_of_cell? w0 _ (hc i hi)
    obtain ⟨b2, off2, e, hc2⟩ := h.at hi
    cases e
    rw [hb.cell (by simp at hlt; simp; omega)]
    exact hc2 i hi
theorem goV_len (m : Mc) : ∀ (wd : List Int) (s : Int) (acc : List Int), (goV m s wd acc).2.length ≤ acc.length + wd.length + 1
  | [], s, acc => by
    unfold goV
    split <;> simp
  | x :: wd, s, acc => by
    unfold goV
    refine Nat.le_trans (goV_len m wd _ _) ?_
    split <;> simp only [List.length_append, List.length_cons, List.length_nil] <;> omega
theorem fromV_len (m : Mc) (s : Int) (wd : List Int) : (fromV m s wd).2.1.length ≤ wd.length + 1 := by
  unfold fromV
  split
  · simp
  · split
    · simp
    · split
      · simp
      · have := goV_len m wd s []
        simpa using this

set_option maxRecDepth 100000 in
theorem machineOwn_walk (m : Mc) (a1 : Option Addr) (c1 : Nat) (a2 : Option Addr) (c2 : Nat) (a0 : Option Addr) (c0 : Nat) (wd : List Int) (w : World) (h0 : ArgM w m a1 c1 a2 c2) (g0 : ArgL .i64 8 w a0 c0 wd) :
    Calls Try.prog 8 #[mval m a1 c1 a2 c2, .slice a0 wd.length c0] w fun e w' => e = .returned (.bool true) ∧ Below w.heap.size w w' := by
  unfold mval
  have B0 := Box.alloc w m a1 c1 a2 c2 24
  have b0 := ballo w (.cells #[.int .i64 m.kind, .int .i64 m.k, .int .i64 m.o, .int .i64 m.n, .slice a1 m.nx.length c1, .slice a2 m.out.length c2] 24)
  cases hbig : bigB m
  rotate_left
  · go_enter Try.func8, Try.ntmps8
    go_wp2_with fail
    refine (big_any m a1 c1 a2 c2 _).mono ?_
    rw [hbig]
    rintro e w1 ⟨rfl, hb1⟩
    have b1 := bstep b0 hb1
    go_wp2_with (go_at_call 10; refine (live_any _).mono ?_; rintro e wl ⟨rfl, hbl⟩)
    go_ret
    exact ⟨rfl, bstep b1 hbl⟩
  obtain ⟨_, ln, lo⟩ := big_bounds hbig
  have mn : m.nx.length ≤ maxLen := by unfold maxLen; omega
  have mo : m.out.length ≤ maxLen := by unfold maxLen; omega
  by_cases hlong : 2000 < wd.length
  · go_enter Try.func8, Try.ntmps8
    go_wp2_with fail
    refine (big_any m a1 c1 a2 c2 _).mono ?_
    rw [hbig]
    rintro e w1 ⟨rfl, hb1⟩
    have b1 := bstep b0 hb1
    have B1 := B0.below hb1
    obtain ⟨p0, p1, p2, p3, p4, p5⟩ := id B1
    clear hb1
    go_wp2_with (go_at_call 10; refine (live_any _).mono ?_; rintro e wl ⟨rfl, hbl⟩)
    go_ret
    exact ⟨rfl, bstep b1 hbl⟩
  have ml : wd.length ≤ maxLen := by unfold maxLen; omega
  have HL := hide (fromV_len m 0 wd)
  go_enter Try.func8, Try.ntmps8
  go_wp2_with fail
  refine (big_any m a1 c1 a2 c2 _).mono ?_
  rw [hbig]
  rintro e w1 ⟨rfl, hb1⟩
  have b1 := bstep b0 hb1
  have B1 := B0.below hb1
  obtain ⟨p0, p1, p2, p3, p4, p5⟩ := id B1
  clear hb1
  clear B0 b0 hbig
  go_wp2_with fail
  refine (copy_any m a1 c1 a2 c2 w1 (h0.nx.rd.below b1) (h0.out.rd.below b1) h0.nx.nil h0.out.nil ln lo).mono ?_
  rintro e w2 ⟨d1, e1, d2, e2, rfl, r1, r2, hb2⟩
  unfold mval
  have b2 := bstep b1 hb2
  have B2 := B1.below hb2
  clear p0 p1 p2 p3 p4 p5 hb2 b1 B1
  have zw := b2.size
  have C0 := Box.alloc w2 m d1 e1 d2 e2 24
  have x3 := ballo w2 (.cells #[.int .i64 m.kind, .int .i64 m.k, .int .i64 m.o, .int .i64 m.n, .slice d1 m.nx.length e1, .slice d2 m.out.length e2] 24)
  have b3 := bstep b2 x3
  have B3 := B2.below x3
  have k1 := r1
  have k2 := r2
  have r1 := r1.below x3
  have r2 := r2.below x3
  have z3 : w2.heap.size + 1 = (w2.alloc (.cells #[.int .i64 m.kind, .int .i64 m.k, .int .i64 m.o, .int .i64 m.n, .slice d1 m.nx.length e1, .slice d2 m.out.length e2] 24)).heap.size := by simp
  clear B2 b2 x3
  go_wp2_with fail
  refine (run_any m d1 e1 d2 e2 a0 c0 wd _ r1 r2 (g0.rd.below b3) mn mo ml).mono ?_
  rintro e w4 ⟨v4, rfl, I4, hb4⟩
  rw [← z3] at I4
  have z4 := hb4.size
  rw [← z3] at z4
  obtain ⟨av, cv, rfl, -, -, -, -, -⟩ := I4.shape
  have b4 := bstep b3 hb4
  have B4 := B3.below hb4
  have C4 := C0.below hb4
  have r1 := r1.below hb4
  have r2 := r2.below hb4
  clear B3 C0 b3 hb4 z3
  obtain ⟨q0, q1, q2, q3, q4, q5⟩ := id C4
  go_wp2_with fail
  refine (from_any m d1 e1 d2 e2 0 a0 c0 wd w4 r1 r2 (g0.rd.below b4) mn mo ml).mono ?_
  rintro e w5 ⟨v5, rfl, I5, hb5⟩
  obtain ⟨au, cu, rfl, -, -, -, -, -⟩ := I5.shape
  have z5 := hb5.size
  have b5 := balloc (bstep b4 hb5) (.cells #[.slice av (fromV m 0 wd).2.1.length cv, .slice au (fromV m 0 wd).2.1.length cu] 22)
  have B5 := (B4.below hb5).below (ballo w5 (.cells #[.slice av (fromV m 0 wd).2.1.length cv, .slice au (fromV m 0 wd).2.1.length cu] 22))
  have C5 := (C4.below hb5).below (ballo w5 (.cells #[.slice av (fromV m 0 wd).2.1.length cv, .slice au (fromV m 0 wd).2.1.length cu] 22))
  have r1 := (r1.below hb5).below (ballo w5 (.cells #[.slice av (fromV m 0 wd).2.1.length cv, .slice au (fromV m 0 wd).2.1.length cu] 22))
  have r2 := (r2.below hb5).below (ballo w5 (.cells #[.slice av (fromV m 0 wd).2.1.length cv, .slice au (fromV m 0 wd).2.1.length cu] 22))
  have O := OwnV.two w5 (w2.heap.size + 1) (.slice av (fromV m 0 wd).2.1.length cv) (.slice au (fromV m 0 wd).2.1.length cu) (Nat.le_trans z4 z5)
  have F : Fam (w5.alloc (.cells #[.slice av (fromV m 0 wd).2.1.length cv, .slice au (fromV m 0 wd).2.1.length cu] 22)) (w2.heap.size + 1) 2 (duo (.slice av (fromV m 0 wd).2.1.length cv) (.slice au (fromV m 0 wd).2.1.length cu)) (fun _ => (fromV m 0 wd).2.1.length) (fun _ i => (fromV m 0 wd).2.1.getD i 0) := by
    refine ⟨fun i hi => ?_, fun i j hi hj hne b hb hb' => ?_⟩
    · rcases (show i = 0 ∨ i = 1 by omega) with rfl | rfl
      · exact ((I4.grown hb5).alloc _).own
      · exact ((I5.mono z4).alloc _).own
    · rcases (show i = 0 ∧ j = 1 ∨ i = 1 ∧ j = 0 by omega) with ⟨rfl, rfl⟩ | ⟨rfl, rfl⟩
      · have q1 := (I4.lt (b := b) hb).2
        have q2 := (I5.lt (b := b) hb').1
        omega
      · have q1 := (I4.lt (b := b) hb').2
        have q2 := (I5.lt (b := b) hb).1
        omega
  have A : ∀ b, (Value.slice (some ⟨w5.heap.size, 0, none⟩) 2 2).ownBlock = some b → ∀ i, i < 2 → (duo (.slice av (fromV m 0 wd).2.1.length cv) (.slice au (fromV m 0 wd).2.1.length cu) i).ownBlock ≠ some b := by
    intro b hb i hi e
    cases hb
    rcases (show i = 0 ∨ i = 1 by omega) with rfl | rfl
    · have q := (I4.lt (b := w5.heap.size) e).2
      omega
    · have q := (I5.lt (b := w5.heap.size) e).2
      omega
  have HO := hide O
  have HF := hide F
  have HA := hide A
  have HN : Hid ((fromV m 0 wd).2.1.length ≤ 100000) := Nat.le_trans (unhide HL) (by omega)
  clear O F A I4 I5 q0 q1 q2 q3 q4 q5 B4 C4 b4 hb5 HL
  generalize fromV m 0 wd = P at *
  obtain ⟨P1, P2, P3⟩ := P
  go_wp2_with fail
  refine (apart_any (w2.heap.size + 1) 2 _ _ _ _ _ (unhide HO) (unhide HF) (unhide HA) (by simp; omega) (by decide) (fun _ _ => unhide HN)).mono ?_
  rintro e w6 ⟨rfl, hb6⟩
  have zz := b5.size
  have b6 := b5.trans (hb6.mono (by omega))
  have B6 := box_on B5 hb6 (by omega)
  have C6 := box_on C5 hb6 (by omega)
  have r1 := RdL.later k1 (by omega) r1 hb6
  have r2 := RdL.later k2 (by omega) r2 hb6
  clear hb6 B5 C5 HO HF HA HN
  obtain ⟨p0, p1, p2, p3, p4, p5⟩ := id B6
  obtain ⟨q0, q1, q2, q3, q4, q5⟩ := id C6
  go_wp2_with fail
  refine (msame_any m d1 e1 d2 e2 a1 c1 a2 c2 w6 r1 r2 (h0.nx.rd.below b6) (h0.out.rd.below b6) mn mo).mono ?_
  rintro e w7 ⟨rfl, hb7⟩
  have b7 := bstep b6 hb7
  go_wp2_with (go_at_call 10; refine (live_any _).mono ?_; rintro e wl ⟨rfl, hbl⟩)
  go_ret
  exact ⟨rfl, bstep b7 hbl⟩

end Go.Proofs.Yteiembcgmakhgaa
