/-
  DotDraws, walked: for every input the call returns true.
-/
import Derived.Test.YtbhdcgebcmgidaaDoorTDLive
import Derived.Test.YtbhdcgebcmgidaaDoorK5
import Derived.Test.YtbhdcgebcmgidaaDoorK6
namespace Go.Proofs.YtbhdcgebcmgidaaDoor
set_option linter.unusedVariables false
open Go.RowKit

theorem bigF {N : Int} {m : Mc} (h : bigB N m = false) : m.n ≤ N ∧ m.nx.length ≤ 70000 ∧ m.out.length ≤ 70000 := by
  unfold bigB at h
  have := of_decide_eq_false h
  omega

set_option maxRecDepth 100000 in
set_option maxHeartbeats 4000000 in
theorem dotDraws_walk (m : Mc) (a1 : Option Addr) (c1 : Nat) (a2 : Option Addr) (c2 : Nat) (a : Option Addr) (c : Nat) (names : List Int) (x : Int) (w : World) (h0 : ArgM w m a1 c1 a2 c2) (hA : ArgL .i32 4 w a c names) (hx : Fits x) (gp : Gp w) :
    Calls Tryd.prog 3 #[mval m a1 c1 a2 c2, .slice a names.length c, .int .i64 x] w fun e w' => e = .returned (.bool true) ∧ Below w.heap.size w w' := by
  have GP := hide gp
  clear gp
  unfold mval
  have B0 := Box.alloc w m a1 c1 a2 c2 24
  have b0 := ballo w (.cells #[.int .i64 m.kind, .int .i64 m.k, .int .i64 m.o, .int .i64 m.n, .slice a1 m.nx.length c1, .slice a2 m.out.length c2] 24)
  cases hbig : bigB 100 m
  rotate_left
  · go_enter Tryd.func3, Tryd.ntmps3
    go_wp2_with fail
    refine (big_any 100 m a1 c1 a2 c2 _).mono ?_
    rw [hbig]
    rintro e w1 ⟨rfl, hb1⟩
    have b1 := bstep b0 hb1
    go_wp2_with (go_at_call 7; refine (live_any _ ((unhide GP).below (by first | assumption | exact bstep b9 hb9 | exact bstep b5 hb57))).mono ?_; rintro e wl ⟨rfl, hbl⟩)
    go_ret
    exact ⟨rfl, bstep b1 hbl⟩
  obtain ⟨-, ln, lo⟩ := bigF hbig
  have mn : m.nx.length ≤ maxLen := by unfold maxLen; omega
  have mo : m.out.length ≤ maxLen := by unfold maxLen; omega
  by_cases hl : 1000 < names.length
  · have hl' : (names.length : Int) > 1000 := by omega
    go_enter Tryd.func3, Tryd.ntmps3
    go_wp2_with fail
    refine (big_any 100 m a1 c1 a2 c2 _).mono ?_
    rw [hbig]
    rintro e w1 ⟨rfl, hb1⟩
    have b1 := bstep b0 hb1
    go_wp2_with (go_at_call 7; refine (live_any _ ((unhide GP).below (by first | assumption | exact bstep b9 hb9 | exact bstep b5 hb57))).mono ?_; rintro e wl ⟨rfl, hbl⟩)
    go_ret
    exact ⟨rfl, bstep b1 hbl⟩
  have hl' : ¬ ((names.length : Int) > 1000) := by omega
  have hrd := hA.rd
  have hnA := hA.nil
  clear hA
  go_enter Tryd.func3, Tryd.ntmps3
  go_wp2_with fail
  refine (big_any 100 m a1 c1 a2 c2 _).mono ?_
  rw [hbig]
  rintro e w1 ⟨rfl, hb1⟩
  have b1 := bstep b0 hb1
  have B1 := B0.below hb1
  obtain ⟨p0, p1, p2, p3, p4, p5⟩ := id B1
  clear B0 b0 hbig
  go_wp2_with fail
  refine (copy_any m a1 c1 a2 c2 w1 (h0.nx.rd.below b1) (h0.out.rd.below b1) h0.nx.nil h0.out.nil ln lo).mono ?_
  rintro e w2 ⟨d1, e1, d2, e2, rfl, k1, k2, hb2⟩
  unfold mval
  have C2 := Box.alloc w2 m d1 e1 d2 e2 24
  have ba : Below w2.heap.size w2 (w2.alloc (.cells #[.int .i64 m.kind, .int .i64 m.k, .int .i64 m.o, .int .i64 m.n, .slice d1 m.nx.length e1, .slice d2 m.out.length e2] 24)) := ballo _ _
  have hb3 := bstep hb2 ba
  have b3 := bstep b1 hb3
  have B3 := B1.below hb3
  have k31 := k1.below ba
  have k32 := k2.below ba
  have r0 := OwnL.lit (q := .i32) (t := 21) (w2.alloc (.cells #[.int .i64 m.kind, .int .i64 m.k, .int .i64 m.o, .int .i64 m.n, .slice d1 m.nx.length e1, .slice d2 m.out.length e2] 24)) (w2.alloc (.cells #[.int .i64 m.kind, .int .i64 m.k, .int .i64 m.o, .int .i64 m.n, .slice d1 m.nx.length e1, .slice d2 m.out.length e2] 24)).heap.size [] #[] (Nat.le_refl _) (by unfold maxLen; simp) rfl
  have hrdT : RdL .i32 ((w2.alloc (.cells #[.int .i64 m.kind, .int .i64 m.k, .int .i64 m.o, .int .i64 m.n, .slice d1 m.nx.length e1, .slice d2 m.out.length e2] 24)).alloc (.cells #[] 21)) a names := (hrd.below b3).below (ballo _ _)
  have hzz : (w2.alloc (.cells #[.int .i64 m.kind, .int .i64 m.k, .int .i64 m.o, .int .i64 m.n, .slice d1 m.nx.length e1, .slice d2 m.out.length e2] 24)).heap.size = w2.heap.size + 1 := World.size_alloc _ _
  rw [hzz] at r0
  clear p0 p1 p2 p3 p4 p5
  go_wp2_with (at_builtin; refine wpl_pushL e32 rfl (.tmp 28) (.tmp 29) rfl (w2.heap.size + 1) _ [] rfl r0 a c names rfl hrdT hnA (by simp only [List.length_nil]; omega) (by simp) ?_; rw [List.nil_append]; intro v4 w4 ho4 hb4 _; have hb34 : Below (w2.alloc (.cells #[.int .i64 m.kind, .int .i64 m.k, .int .i64 m.o, .int .i64 m.n, .slice d1 m.nx.length e1, .slice d2 m.out.length e2] 24)).heap.size (w2.alloc (.cells #[.int .i64 m.kind, .int .i64 m.k, .int .i64 m.o, .int .i64 m.n, .slice d1 m.nx.length e1, .slice d2 m.out.length e2] 24)) w4 := (ballo (w2.alloc (.cells #[.int .i64 m.kind, .int .i64 m.k, .int .i64 m.o, .int .i64 m.n, .slice d1 m.nx.length e1, .slice d2 m.out.length e2] 24)) (.cells #[] 21)).trans (by rw [hzz]; exact hb4); have C4 := C2.below hb34; obtain ⟨an, cn, rfl, hnn, -, -, hrn, -⟩ := ho4.shape; obtain ⟨q0, q1, q2, q3, q4, q5⟩ := id C4)
  have b4 := bstep b3 hb34
  have B4 := B3.below hb34
  have k41 := k31.below hb34
  have k42 := k32.below hb34
  clear r0 hrdT hb34 hb4 k31 k32 C2 B3 b3 hb3 ba k1 k2 hb2 B1 hzz
  have hd := ddot_any m d1 e1 d2 e2 an cn names w4 k41 k42 hrn mn mo ((unhide GP).below b4)
  unfold mval DtPost at hd
  refine hd.mono ?_
  rintro e w5 ⟨v5, rfl, ho5, hb5⟩
  have b5 := bstep b4 hb5
  have B5 := B4.below hb5
  have C5 := C4.below hb5
  clear q0 q1 q2 q3 q4 q5 hd
  obtain ⟨p0, p1, p2, p3, p4, p5⟩ := id B5
  have hx := rdot_any m a1 c1 a2 c2 a c names w5 (h0.nx.rd.below b5) (h0.out.rd.below b5) (hrd.below b5) mn mo
  unfold mval DtPost at hx
  go_wp2_with fail
  refine hx.mono ?_
  rintro e w6 ⟨v6, rfl, ho6, hb6⟩
  have b6 := bstep b5 hb6
  clear p0 p1 p2 p3 p4 p5 hx
  go_wp2_with fail
  refine (dlabel_any an cn names x w6 ((hrn.below hb5).below hb6)).mono ?_
  rintro e w7 ⟨rfl, hb7⟩
  have b7 := bstep b6 hb7
  go_wp2_with fail
  refine (rlabel_any a c names x w7 (hrd.below b7)).mono ?_
  rintro e w8 ⟨rfl, hb8⟩
  have b8 := bstep b7 hb8
  have hb58 := bstep (bstep hb6 hb7) hb8
  have hb48 := bstep hb5 hb58
  have B8 := B5.below hb58
  have C8 := C5.below hb58
  have k81 := k41.below hb48
  have k82 := k42.below hb48
  obtain ⟨x1, y1, rfl, hn1, -, -, rd1, -⟩ := (ho5.grown hb58).shape
  obtain ⟨x2, y2, rfl, hn2, -, -, rd2, -⟩ := (ho6.grown (bstep hb7 hb8)).shape
  rw [zs_len] at hn1 hn2
  have rn8 := hrn.below hb48
  have rd8 := hrd.below b8
  generalize (lbV names x).1 = s at *
  generalize (lbV names x).2 = er at *
  have HS := hide (fun wz (h : Below w8.heap.size w8 wz) => bsame_any x1 x2 y1 y2 (dtV m names).1 (dtV m names).1 wz (rd1.below h) (rd2.below h) hn1 hn2)
  rw [zs_len]
  generalize (dtV m names).1.length = L at *
  generalize (dtV m names).2 = ed at *
  clear rd1 rd2 hn1 hn2 ho5 ho6
  go_wp2
  go_loopw [17] (fun i wx => ∃ I : Nat, i = .int .i64 (I : Int) ∧ I ≤ names.length ∧ Below w8.heap.size w8 wx) (fun i _ => names.length - (intOf i).toNat)
  case atStart => exact ⟨0, rfl, Nat.zero_le _, Below.refl _ _⟩
  case round =>
    obtain ⟨I, rfl, hI, hB⟩ := hrel
    by_cases hlt : I < names.length
    · have hlt' : (I : Int) < (names.length : Int) := by omega
      obtain ⟨gn, on', rn', hcn⟩ := (rn8.below hB).at hlt
      obtain ⟨ga, oa, ra', hca⟩ := (rd8.below hB).at hlt
      have hc1 := hcn I hlt
      have hc2 := hca I hlt
      subst rn' ra'
      clear hcn hca
      generalize names.getD I 0 = z at *
      have hzz : (z != z) = false := by simp
      go_wp2
      go_quiet (fail)
      go_wp2
      go_roundw
      case rel => exact ⟨I + 1, by go_num, by omega, below_drewN hB _⟩
      case measure => simp [intOf]; omega
    · have hge : ¬ ((I : Int) < (names.length : Int)) := by omega
      have b9 := bstep b8 hB
      obtain ⟨p0, p1, p2, p3, p4, p5⟩ := B8.below hB
      obtain ⟨q0, q1, q2, q3, q4, q5⟩ := C8.below hB
      have hs := unhide HS wr hB
      rw [decide_eq_true trivial] at hs
      have hsm := msame_any m d1 e1 d2 e2 a1 c1 a2 c2 wr (k81.below hB) (k82.below hB) (h0.nx.rd.below b9) (h0.out.rd.below b9) mn mo
      unfold mval at hsm
      have hss : (s == s) = true := by simp
      go_wp2_with (first | (go_at_call 13; refine hs.mono ?_; rintro e wz ⟨rfl, hwz⟩; subst wz) | (go_at_call 14; refine (num_any _ _).mono ?_; rintro e wz ⟨rfl, hwz⟩; subst wz) | (go_at_call 15; refine hsm.mono ?_; rintro e w9 ⟨rfl, hb9⟩) | (go_at_call 7; refine (live_any _ ((unhide GP).below (by first | assumption | exact bstep b9 hb9 | exact bstep b5 hb57))).mono ?_; rintro e wl ⟨rfl, hbl⟩))
      go_ret
      exact ⟨rfl, bstep (bstep b9 hb9) hbl⟩

end Go.Proofs.YtbhdcgebcmgidaaDoor
