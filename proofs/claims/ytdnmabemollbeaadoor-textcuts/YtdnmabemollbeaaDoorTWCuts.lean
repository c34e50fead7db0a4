/-
  TextCuts, walked: for every input the call returns true.
-/
import Derived.Test.YtdnmabemollbeaaDoorTWExp
import Derived.Test.YtdnmabemollbeaaDoorUThr
import Derived.Test.YtdnmabemollbeaaDoorK6
namespace Go.Proofs.YtdnmabemollbeaaDoor
set_option linter.unusedVariables false
open Go.RowKit

theorem zs_one {x : Int} (h : (Lit.int .u8 x).wf = true) : ∃ c : UInt8, [x] = zs [c] := by
  obtain ⟨b, hb⟩ := zs_of (l := [x]) (fun i hi => by
    have : i = 0 := by simpa using hi
    subst this; exact h)
  match b, hb with
  | [], hb => cases hb
  | [c], hb => exact ⟨c, hb⟩
  | _ :: _ :: _, hb => simp [zs] at hb
theorem RdL.cut {q : IntKind} {w : World} {a : Option Addr} {l : List Int} (h : RdL q w a l) (n : Nat) : RdL q w a (l.take n) := by
  rcases h with h | ⟨b, off, rfl, hc⟩
  · left; rw [List.length_take]; omega
  · right
    refine ⟨b, off, rfl, fun i hi => ?_⟩
    rw [List.length_take] at hi
    rw [hc i (by omega)]
    have : (l.take n).getD i 0 = l.getD i 0 := by
      rw [List.getD, List.getD, List.getElem?_take_of_lt (by omega)]
    rw [this]
theorem zs_take (l : List UInt8) (n : Nat) : zs (l.take n) = (zs l).take n := by simp [zs, List.map_take]

set_option maxRecDepth 100000 in
set_option maxHeartbeats 4000000 in
theorem textCuts_walk (m : Mc) (a1 : Option Addr) (c1 : Nat) (a2 : Option Addr) (c2 : Nat) (cut mo : Int) (w : World) (h0 : ArgM w m a1 c1 a2 c2) (hcut : Fits cut) (hmo : (Lit.int .u8 mo).wf = true) (g : Gl w) :
    Calls Tryd.prog 9 #[mval m a1 c1 a2 c2, .int .i64 cut, .int .u8 mo] w fun e w' => e = .returned (.bool true) ∧ Below w.heap.size w w' := by
  unfold mval
  have B0 := Box.alloc w m a1 c1 a2 c2 24
  have b0 := ballo w (.cells #[.int .i64 m.kind, .int .i64 m.k, .int .i64 m.o, .int .i64 m.n, .slice a1 m.nx.length c1, .slice a2 m.out.length c2] 24)
  obtain ⟨cc, hcc⟩ := zs_one hmo
  cases hbig : bigB 100 m
  rotate_left
  · go_enter Tryd.func9, Tryd.ntmps9
    go_wp2_with fail
    refine (big_any 100 m a1 c1 a2 c2 _).mono ?_
    rw [hbig]
    rintro e w1 ⟨rfl, hb1⟩
    have b1 := bstep b0 hb1
    go_wp2_with (go_at_call 12; refine (live_any _ (g.below b1)).mono ?_; rintro e wl ⟨rfl, hbl⟩)
    go_ret
    exact ⟨rfl, bstep b1 hbl⟩
  obtain ⟨-, ln, lo⟩ := bigF hbig
  have mn : m.nx.length ≤ maxLen := by unfold maxLen; omega
  have mo' : m.out.length ≤ maxLen := by unfold maxLen; omega
  go_enter Tryd.func9, Tryd.ntmps9
  go_wp2_with fail
  refine (big_any 100 m a1 c1 a2 c2 _).mono ?_
  rw [hbig]
  rintro e w1 ⟨rfl, hb1⟩
  have b1 := bstep b0 hb1
  have B1 := B0.below hb1
  obtain ⟨p0, p1, p2, p3, p4, p5⟩ := id B1
  clear B0 b0 hbig
  have hex := export_any m a1 c1 a2 c2 w1 (h0.nx.rd.below b1) (h0.out.rd.below b1) mn mo' (g.below b1)
  unfold mval at hex
  by_cases hm : (mchV m).2 = 0
  rotate_left
  · have hne := mch_ne hm
    rw [expV_bad hm] at hex
    clear hm
    go_wp2_with fail
    refine hex.mono ?_
    rintro e w2 ⟨v2, rfl, ho2, hb2⟩
    have b2 := bstep b1 hb2
    generalize (mchV m).2 = er at *
    clear hex
    dsimp only
    go_wp2_with (first | (go_at_call 17; refine (num_any _ _).mono ?_; rintro e wz ⟨rfl, hwz⟩; subst wz) | (go_at_call 12; refine (live_any _ (g.below b2)).mono ?_; rintro e wl ⟨rfl, hbl⟩))
    go_ret
    exact ⟨rfl, bstep b2 hbl⟩
  rw [expV_ok hm] at hex
  have F := full_of hm
  have hmr := im_more F cc
  have hct := fun c => im_cut F (c := c)
  have hlen := expT_len F
  clear hm F
  generalize expT m = T at *
  go_wp2_with fail
  refine hex.mono ?_
  rintro e w2 ⟨v2, rfl, ho2, hb2⟩
  have b2 := bstep b1 hb2
  have B2 := B1.below hb2
  obtain ⟨x1, y1, rfl, hn1, hlc, hcm, rd1, -⟩ := ho2.shape
  rw [zs_len] at hn1 hlc ⊢
  clear p0 p1 p2 p3 p4 p5 hex
  have r0 : OwnL .u8 5 (w2.alloc (.cells #[] 5)) w2.heap.size (.slice (some ⟨w2.heap.size, 0, none⟩) 0 0) [] := OwnL.lit w2 _ [] #[] (Nat.le_refl _) (by unfold maxLen; simp) rfl
  have hrdT : RdL .u8 (w2.alloc (.cells #[] 5)) x1 (zs T) := rd1.below (ballo _ _)
  dsimp only
  go_wp2_with (first | (go_at_call 17; refine (num_any _ _).mono ?_; rintro e wz ⟨rfl, hwz⟩; subst wz) | (at_builtin; refine wpl_pushL e8 rfl (.tmp 28) (.tmp 29) rfl w2.heap.size _ [] rfl r0 x1 y1 (zs T) (by rw [zs_len]; rfl) hrdT (by rw [zs_len]; exact hn1) (by rw [zs_len]; simp only [List.length_nil]; omega) (by simp) ?_; rw [List.nil_append]; intro v3 w3 ho3 hb3 _) | (at_builtin; refine wpl_pushL e8 rfl (.tmp 30) (.tmp 32) rfl w2.heap.size v3 (zs T) rfl (ho3.alloc _) (some ⟨w3.heap.size, 0, none⟩) 1 [mo] rfl (RdL.one _ _) (by intro h; cases h) (by rw [zs_len]; simp only [List.length_cons, List.length_nil]; omega) (by have := hb3.size; simp at this ⊢; omega) ?_; intro v4 w4 ho4 hb4 _))
  have hb24 : Below w2.heap.size w2 w4 := ((((Below.refl _ _).alloc (Nat.le_refl _) _).trans hb3).alloc (by have := hb3.size; simp at this; omega) _).trans hb4
  rw [hcc, ← zs_app] at ho4
  obtain ⟨x4, y4, rfl, -, -, -, rd4, -⟩ := ho4.shape
  rw [zs_len]
  have b4 := bstep b2 hb24
  have him := import_any x4 y4 (T ++ [cc]) w4 rd4 (g.below b4)
  unfold ImPost at him
  rw [hmr, show imV (T ++ [cc]) (.error (T.length, 6)) = (mcZ, 6, (T.length : Int)) from rfl] at him
  unfold mval at him
  rw [show mcZ.kind = 0 from rfl, show mcZ.k = 0 from rfl, show mcZ.o = 0 from rfl, show mcZ.n = 0 from rfl, show mcZ.nx.length = 0 from rfl, show mcZ.out.length = 0 from rfl] at him
  refine him.mono ?_
  rintro e w5 ⟨d1, e1, d2, e2, rfl, -, hb5⟩
  have b5 := bstep b4 hb5
  have C5 : Box (w5.alloc (.cells #[.int .i64 0, .int .i64 0, .int .i64 0, .int .i64 0, .slice d1 0 e1, .slice d2 0 e2] 24)) w5.heap.size mcZ d1 e1 d2 e2 := Box.alloc w5 mcZ d1 e1 d2 e2 24
  have b6 := bstep b5 (ballo w5 (.cells #[.int .i64 0, .int .i64 0, .int .i64 0, .int .i64 0, .slice d1 0 e1, .slice d2 0 e2] 24))
  have rd6 : RdL .u8 (w5.alloc (.cells #[.int .i64 0, .int .i64 0, .int .i64 0, .int .i64 0, .slice d1 0 e1, .slice d2 0 e2] 24)) x1 (zs T) := ((rd1.below hb24).below hb5).below (ballo _ _)
  clear him hrdT r0 hmr hcc
  obtain ⟨q0, q1, q2, q3, q4, q5⟩ := id C5
  by_cases hcs : cut < 0 ∨ (T.length : Int) ≤ cut
  · have h1 : ¬ cut < 0 → (T.length : Int) ≤ cut := by omega
    go_wp2_with (first | (go_at_call 17; refine (num_any _ _).mono ?_; rintro e wz ⟨rfl, hwz⟩; subst wz) | (go_at_call 12; refine (live_any _ (g.below b6)).mono ?_; rintro e wl ⟨rfl, hbl⟩))
    all_goals go_ret
    all_goals exact ⟨rfl, bstep b6 hbl⟩
  obtain ⟨cN, rfl⟩ : ∃ cN : Nat, cut = cN := ⟨cut.toNat, by omega⟩
  obtain ⟨p, er, hie, hp, he0, he1⟩ := hct cN (by omega)
  have hlt : (cN : Int) < T.length := by omega
  have hc0 : (0 : Int) ≤ cN := by omega
  have hcy : (cN : Int) ≤ y1 := by omega
  go_wp2_with (first | (go_at_call 17; refine (num_any _ _).mono ?_; rintro e wz ⟨rfl, hwz⟩; subst wz) | (go_at_call 12; refine (live_any _ (g.below b6)).mono ?_; rintro e wl ⟨rfl, hbl⟩))
  have hcl : (T.take cN).length = cN := by rw [List.length_take]; omega
  have him := import_any x1 y1 (T.take cN) _ (by rw [zs_take]; exact rd6.cut cN) (g.below b6)
  unfold ImPost at him
  rw [hie, show imV (T.take cN) (.error (p, er)) = (mcZ, er, (p : Int)) from rfl, hcl] at him
  unfold mval at him
  rw [show mcZ.kind = 0 from rfl, show mcZ.k = 0 from rfl, show mcZ.o = 0 from rfl, show mcZ.n = 0 from rfl, show mcZ.nx.length = 0 from rfl, show mcZ.out.length = 0 from rfl] at him
  refine him.mono ?_
  rintro e w7 ⟨d3, e3, d4, e4, rfl, -, hb7⟩
  have b7 := bstep (bstep b6 hb7) (ballo w7 (.cells #[.int .i64 0, .int .i64 0, .int .i64 0, .int .i64 0, .slice d3 0 e3, .slice d4 0 e4] 24))
  have C7 : Box (w7.alloc (.cells #[.int .i64 0, .int .i64 0, .int .i64 0, .int .i64 0, .slice d3 0 e3, .slice d4 0 e4] 24)) w7.heap.size mcZ d3 e3 d4 e4 := Box.alloc w7 mcZ d3 e3 d4 e4 24
  clear him q0 q1 q2 q3 q4 q5 C5
  obtain ⟨q0, q1, q2, q3, q4, q5⟩ := id C7
  have hp' : (p : Int) ≤ cN := by omega
  dsimp only
  go_wp2_with (first | (go_at_call 17; refine (num_any _ _).mono ?_; rintro e wz ⟨rfl, hwz⟩; subst wz) | (go_at_call 12; refine (live_any _ (g.below b7)).mono ?_; rintro e wl ⟨rfl, hbl⟩))
  go_ret
  exact ⟨ret_bool (show (er != 0) = true by simp; omega), bstep b7 hbl⟩

end Go.Proofs.YtdnmabemollbeaaDoor
