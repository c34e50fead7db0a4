/-
  The document's example: live returns true; the law TreeNils.
-/
import Derived.Test.YtlcablkhomnieaaTrQ
import Derived.Test.YtlcablkhomnieaaK1
import Derived.Test.YtlcablkhomnieaaK5
namespace Go.Proofs.Ytlcablkhomnieaa
set_option linter.unusedVariables false
open Go.RowKit

theorem lit2 (w : World) (x y : Int) : RdL .i64 (w.alloc (.cells #[.int .i64 x, .int .i64 y] 3)) (some ⟨w.heap.size, 0, none⟩) [x, y] := RdL.lit w [x, y] _ (by unfold maxLen; simp) rfl
theorem lit1 (w : World) (x : Int) : RdL .i64 (w.alloc (.cells #[.int .i64 x] 3)) (some ⟨w.heap.size, 0, none⟩) [x] := RdL.lit w [x] _ (by unfold maxLen; simp) rfl
theorem rnum_any (x : Int) (w : World) : Calls Try.prog 12 #[.int .i64 x] w fun e w' => e = .returned (.int .i64 x) ∧ w' = w := by
  go_enter Try.func12, Try.ntmps12
  go_wp2
  go_ret
  exact ⟨by first | rfl | simp, rfl⟩
theorem RzT.fresh {w0 w w' : World} {b : Nat} {p : Tp} {s : Tr} {g : Nat} {l : List Int} (h : Tt w0 w b p s) (hr : RdL .i64 w' (some ⟨g, 0, none⟩) l) (hg : w.heap.size ≤ g) (hg2 : g < w'.heap.size) : RzT w' p s (some ⟨g, 0, none⟩) l :=
  ⟨hr, fun x e => by cases e; exact ⟨hg2, fun q => by have h1 : g < w.heap.size := (h.tm.hlt q).2; omega⟩⟩
def trA0 : Tr := trN 1 1 2
def trA1 : Tr := (trA0.splT 0 [] [0] [0] [1]).1
def trA2 : Tr := (trA1.siftT [0, 0]).1
def trA3 : Tr := (trA2.tellT [0]).1
theorem rlv1 : trA0.splE 0 [] [0] [0] [1] = 0 ∧ (trA0.splT 0 [] [0] [0] [1]).2 = 1 := by decide +kernel
theorem rlv2 : (trA1.siftT [0, 0]).2 = 0 := by decide +kernel
theorem rlv3 : trA2.askT = some [0, 0] := by decide +kernel
theorem rlv4 : (trA2.tellT [0]).2 = 0 := by decide +kernel
theorem rlv5 : trA3.leafT = some 0 := by decide +kernel
theorem rlv6 : trA3.nl = 2 ∧ trA3.dep = 1 ∧ trA3.nn = 1 ∧ (trA3.nd 0).wd = [] := by decide +kernel
set_option maxRecDepth 100000 in
set_option maxHeartbeats 8000000 in
theorem rlive_any (w : World) : Calls Try.prog 9 #[] w fun e w' => e = .returned (.bool true) ∧ Below w.heap.size w w' := by
  have hn := Tt.new (kind := 1) (k := 1) (o := 2) (by decide) w
  go_enter Try.func9, Try.ntmps9
  go_wp2_with fail
  refine hn.mono ?_
  rintro e w1 ⟨b, p, rfl, Q1⟩
  clear hn
  go_wp2_with fail
  refine (rnum_any _ _).mono ?_
  rintro e w' ⟨rfl, hw'⟩
  subst hw'
  -- Split
  have hb3 : Below w'.heap.size w' (((w'.alloc (.cells #[.int .i64 0] 3)).alloc (.cells #[.int .i64 0] 3)).alloc (.cells #[.int .i64 1] 3)) := bstep (bstep (ballo _ _) (ballo _ _)) (ballo _ _)
  have g1 : RdL .i64 (((w'.alloc (.cells #[.int .i64 0] 3)).alloc (.cells #[.int .i64 0] 3)).alloc (.cells #[.int .i64 1] 3)) (some ⟨w'.heap.size, 0, none⟩) [0] := (lit1 w' 0).below (bstep (ballo _ _) (ballo _ _))
  have g2 : RdL .i64 (((w'.alloc (.cells #[.int .i64 0] 3)).alloc (.cells #[.int .i64 0] 3)).alloc (.cells #[.int .i64 1] 3)) (some ⟨w'.heap.size + 1, 0, none⟩) [0] := by
    have := (lit1 (w'.alloc (.cells #[.int .i64 0] 3)) 0).below (ballo _ (.cells #[.int .i64 1] 3))
    rwa [World.size_alloc] at this
  have g3 : RdL .i64 (((w'.alloc (.cells #[.int .i64 0] 3)).alloc (.cells #[.int .i64 0] 3)).alloc (.cells #[.int .i64 1] 3)) (some ⟨w'.heap.size + 1 + 1, 0, none⟩) [1] := by
    have := lit1 ((w'.alloc (.cells #[.int .i64 0] 3)).alloc (.cells #[.int .i64 0] 3)) 1
    rwa [World.size_alloc, World.size_alloc] at this
  have hp := (Q1.below hb3).split 0 none 0 [] (some ⟨w'.heap.size, 0, none⟩) 1 [0] (some ⟨w'.heap.size + 1, 0, none⟩) 1 [0] (some ⟨w'.heap.size + 1 + 1, 0, none⟩) 1 [1]
    ⟨.inl rfl, fun x e => by cases e⟩ (fun _ => ⟨rfl, rfl⟩) (RzT.fresh Q1 g1 (Nat.le_refl _) (by simp; omega)) (fun e => by cases e) (RzT.fresh Q1 g2 (by omega) (by simp)) (RzT.fresh Q1 g3 (by omega) (by simp)) (by simp [maxLen]) (by simp [maxLen]) (by simp [maxLen]) (by simp [maxLen])
  change Calls _ _ _ _ (QtP w b p trA0 trA1 (.tuple #[.int .i64 (trA0.splT 0 [] [0] [0] [1]).2, .int .i64 (trA0.splE 0 [] [0] [0] [1])]) _) at hp
  rw [rlv1.1, rlv1.2] at hp
  clear Q1 hb3 g1 g2 g3
  go_wp2_with fail
  refine hp.mono ?_
  clear hp
  rintro e w3 ⟨p3, rfl, Q3, -, -⟩
  have hs := (Q3.below (ballo w3 (.cells #[.int .i64 0, .int .i64 0] 3))).sift (some ⟨w3.heap.size, 0, none⟩) 2 [0, 0] (lit2 w3 0 0) (fun e => by cases e) (by simp [maxLen])
  change Calls _ _ _ _ (QtP w b p3 trA1 trA2 (.int .i64 (trA1.siftT [0, 0]).2) _) at hs
  rw [rlv2] at hs
  clear Q3
  go_wp2_with fail
  refine hs.mono ?_
  clear hs
  rintro e w4 ⟨p4, rfl, Q4, -, -⟩
  have ha := Q4.ask
  rw [rlv3] at ha
  have HQ4 := hide Q4
  clear Q4
  go_wp2_with fail
  refine ha.mono ?_
  clear ha
  rintro e w5 ⟨a5, c5, rfl, ho5, hb5⟩
  have R5 := (RzT.own (unhide HQ4) ho5).1
  have Q5 := (unhide HQ4).below hb5
  have ht := (Q5.below (ballo w5 (.cells #[.int .i64 0] 3))).tell (some ⟨w5.heap.size, 0, none⟩) 1 [0] (lit1 w5 0) (by simp) (by simp [maxLen])
  change Calls _ _ _ _ (QtP w b p4 trA2 trA3 (.int .i64 (trA2.tellT [0]).2) _) at ht
  rw [rlv4] at ht
  have HR5 := hide (R5.below (ballo w5 (.cells #[.int .i64 0] 3)))
  clear Q5 R5 ho5 hb5 HQ4
  go_wp2_with fail
  refine ht.mono ?_
  clear ht
  rintro e w6 ⟨p6, rfl, Q6, B6, G6⟩
  have HR6 := hide ((unhide HR5).chg B6 G6)
  have hl := Q6.leaf
  rw [rlv5] at hl
  unfold lfV at hl
  obtain ⟨r, hr, hc⟩ := Q6.common (x := 0) (y := 1) (by rw [rlv6.1]; decide) (by rw [rlv6.1]; decide) (by decide)
  have hr0 : r = 0 := by have := hr.1; rw [rlv6.2.2.1] at this; omega
  rw [hr0, rlv6.2.2.2] at hc
  have HQ6 := hide Q6
  clear Q6 B6 G6 HR5 hr hr0
  go_wp2_with fail
  refine hl.mono ?_
  clear hl
  rintro e w' ⟨rfl, hw'⟩
  rw [hw']
  clear hw'
  go_wp2_with fail
  refine hc.mono ?_
  clear hc
  rintro e w7 ⟨a7, c7, rfl, -, hb7⟩
  have HR7 := hide ((unhide HR6).below hb7)
  have HQ7 := hide ((unhide HQ6).below hb7)
  have hsm := same_list a5 (some ⟨w7.heap.size, 0, none⟩) c5 2 [0, 0] [0, 0] _ ((unhide HR7).below (ballo w7 (.cells #[.int .i64 0, .int .i64 0] 3))).1 (lit2 w7 0 0) (by simp [maxLen])
  clear HQ6 HR6 hb7
  go_wp2_with (first | (go_at_call 12; refine (rnum_any _ _).mono ?_; rintro e w' ⟨rfl, hw'⟩; subst w') | fail)
  refine hsm.mono ?_
  clear hsm
  rintro e w8 ⟨rfl, hb8⟩
  have hbb : Below w7.heap.size w7 w8 := bstep (ballo w7 (.cells #[.int .i64 0, .int .i64 0] 3)) hb8
  have Q8 := (unhide HQ7).below hbb
  have hcn := Q8.count
  have hdp := Q8.depth
  rw [rlv6.1] at hcn
  rw [rlv6.2.1] at hdp
  have HB := hide Q8.bl
  clear Q8 HQ7 HR7 hb8 hbb
  go_wp2_with fail
  refine hcn.mono ?_
  rintro e w' ⟨rfl, hw'⟩
  rw [hw']
  clear hw' hcn
  go_wp2_with fail
  refine hdp.mono ?_
  rintro e w' ⟨rfl, hw'⟩
  rw [hw']
  clear hw' hdp
  go_wp2
  go_ret
  exact ⟨by rfl, unhide HB⟩
set_option maxRecDepth 100000 in
set_option maxHeartbeats 4000000 in
theorem treeNils_walk (a1 : Option Addr) (c1 : Nat) (l1 : List Int) (x : Int) (w : World) (_ : ArgL .i64 8 w a1 c1 l1) (_ : Fits x) :
    Calls Try.prog 4 #[.slice a1 l1.length c1, .int .i64 x] w fun e w' => e = .returned (.bool true) ∧ Below w.heap.size w w' := by
  go_enter Try.func4, Try.ntmps4
  go_wp2_with (first
    | (go_at_call 26; refine (tr_nil_ask _).mono ?_; rintro e w' ⟨rfl, hw'⟩; subst w')
    | (go_at_call 27; refine (tr_nil_leaf _).mono ?_; rintro e w' ⟨rfl, hw'⟩; subst w')
    | (go_at_call 18; refine (tr_nil_split _ _ _ _ _ _).mono ?_; rintro e w' ⟨rfl, hw'⟩; subst w')
    | (go_at_call 22; refine (tr_nil_access _ _).mono ?_; rintro e w' ⟨rfl, hw'⟩; subst w')
    | (go_at_call 24; refine (tr_nil_common _ _ _).mono ?_; rintro e w' ⟨rfl, hw'⟩; subst w')
    | (go_at_call 28; refine (tr_nil_count _).mono ?_; rintro e w' ⟨rfl, hw'⟩; subst w')
    | (go_at_call 29; refine (tr_nil_depth _).mono ?_; rintro e w' ⟨rfl, hw'⟩; subst w')
    | (go_at_call 14; refine (tr_nil_sift _ _).mono ?_; rintro e w' ⟨rfl, hw'⟩; subst w')
    | (go_at_call 16; refine (tr_nil_tell _ _).mono ?_; rintro e w' ⟨rfl, hw'⟩; subst w')
    | (go_at_call 12; refine (rnum_any _ _).mono ?_; rintro e w' ⟨rfl, hw'⟩; subst w')
    | (go_at_call 9; refine (rlive_any _).mono ?_; rintro e w9 ⟨rfl, hb9⟩))
  go_ret
  exact ⟨by rfl, hb9⟩

end Go.Proofs.Ytlcablkhomnieaa
