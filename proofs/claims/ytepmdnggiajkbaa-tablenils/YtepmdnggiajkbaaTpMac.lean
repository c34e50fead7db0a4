/-
  The program's machine(): the machine of the rows, those that are alike being one.
-/
import Derived.Test.YtepmdnggiajkbaaK43
import Derived.Test.YtepmdnggiajkbaaK40
import Derived.Test.YtepmdnggiajkbaaK39
import Derived.Test.YtepmdnggiajkbaaK21
namespace Go.Proofs.Ytepmdnggiajkbaa
set_option linter.unusedVariables false
open Go.RowKit

theorem NInv.done1 {m : Mc} {N : Nat} {w w0 wr X : World} {b n1 c1 n' c' : Nat} {a1 a' : Option Addr} {v2 : Value} {A O M : List Int} (h : NInv m N w w0 wr b (.slice a1 n1 c1) v2 A O) (hX : Bx (fun k => obk a1 = some k) wr X) (ho : OwnL .i64 3 X (b + 1) (.slice a' n' c') (A ++ M)) (hat : ∀ j, obk a' = some j → obk a1 = some j ∨ wr.heap.size ≤ j) :
    NInv m N w w0 (X.setCell ⟨b, 4, none⟩ (.slice a' n' c')) b (.slice a' n' c') v2 (A ++ M) O := by
  have hbl := World.block_lt_of_cell? wr _ h.m0.c0
  simp only at hbl
  have hob : ∀ {j}, obk a1 = some j → b + 1 ≤ j := fun e => (h.o1.lt (by rw [ob_sl]; exact e)).1
  have K2 : ∀ j, j ≠ b → (X.setCell ⟨b, 4, none⟩ (.slice a' n' c')).heap[j]? = X.heap[j]? := fun j hj => Below.heap_setCell _ _ _ _ (by simpa using hj)
  have mk2 := h.m0.keep (hX.block b hbl fun e => by have := hob e; omega)
  have dq : Below b wr X := hX.below (fun k hk => by have := hob hk; omega) (by omega)
  have wb := h.wb
  refine ⟨mk2.set4 _, ho.keep fun j e => K2 j (by have := (ho.lt e).1; omega), ?_, fun j e e2 => ?_, ?_, ?_, h.wb⟩
  · refine (h.o2.keep fun j e => hX.block j (h.o2.lt e).2 fun e2 => h.ap j (by rw [ob_sl]; exact e2) e).keep fun j e => K2 j (by have := (h.o2.lt e).1; omega)
  · rw [ob_sl] at e
    rcases hat j e with e3 | e3
    · exact h.ap j (by rw [ob_sl]; exact e3) e2
    · have := (h.o2.lt e2).2; omega
  · exact (h.b1.trans (dq.mono wb)).setCell (p := ⟨b, 4, none⟩) wb _
  · exact (h.d1.trans dq).setCell (p := ⟨b, 4, none⟩) (Nat.le_refl _) _
theorem NInv.done2 {m : Mc} {N : Nat} {w w0 wr X : World} {b n1 c1 n' c' : Nat} {a1 a' : Option Addr} {v1 : Value} {A O M : List Int} (h : NInv m N w w0 wr b v1 (.slice a1 n1 c1) A O) (hX : Bx (fun k => obk a1 = some k) wr X) (ho : OwnL .i64 3 X (b + 1) (.slice a' n' c') (O ++ M)) (hat : ∀ j, obk a' = some j → obk a1 = some j ∨ wr.heap.size ≤ j) :
    NInv m N w w0 (X.setCell ⟨b, 5, none⟩ (.slice a' n' c')) b v1 (.slice a' n' c') A (O ++ M) := by
  have hbl := World.block_lt_of_cell? wr _ h.m0.c0
  simp only at hbl
  have hob : ∀ {j}, obk a1 = some j → b + 1 ≤ j := fun e => (h.o2.lt (by rw [ob_sl]; exact e)).1
  have K2 : ∀ j, j ≠ b → (X.setCell ⟨b, 5, none⟩ (.slice a' n' c')).heap[j]? = X.heap[j]? := fun j hj => Below.heap_setCell _ _ _ _ (by simpa using hj)
  have mk2 := h.m0.keep (hX.block b hbl fun e => by have := hob e; omega)
  have dq : Below b wr X := hX.below (fun k hk => by have := hob hk; omega) (by omega)
  have wb := h.wb
  refine ⟨mk2.set5 _, ?_, ho.keep fun j e => K2 j (by have := (ho.lt e).1; omega), fun j e e2 => ?_, ?_, ?_, h.wb⟩
  · refine (h.o1.keep fun j e => hX.block j (h.o1.lt e).2 fun e2 => h.ap j e (by rw [ob_sl]; exact e2)).keep fun j e => K2 j (by have := (h.o1.lt e).1; omega)
  · rw [ob_sl] at e2
    rcases hat j e2 with e3 | e3
    · exact h.ap j e (by rw [ob_sl]; exact e3)
    · have := (h.o1.lt e).2; omega
  · exact (h.b1.trans (dq.mono wb)).setCell (p := ⟨b, 5, none⟩) wb _
  · exact (h.d1.trans dq).setCell (p := ⟨b, 5, none⟩) (Nat.le_refl _) _
/-- A step of another kind: nothing that is held is written to. -/
theorem NInv.step {m : Mc} {N : Nat} {w w0 wr X : World} {b : Nat} {v1 v2 : Value} {A O : List Int} (h : NInv m N w w0 wr b v1 v2 A O) (hb : Below wr.heap.size wr X) : NInv m N w w0 X b v1 v2 A O := by
  have hbl := World.block_lt_of_cell? wr _ h.m0.c0
  simp only at hbl
  have wb := h.wb
  exact ⟨h.m0.keep (hb.block b hbl), h.o1.keep fun j e => hb.block j (h.o1.lt e).2, h.o2.keep fun j e => hb.block j (h.o2.lt e).2, h.ap, bstep h.b1 hb, h.d1.trans (hb.mono (by omega)), h.wb⟩
section
variable {B : Nat} {w w' : World} {p : Tl} {s : Ts} {t : Tb}
set_option maxRecDepth 100000 in
set_option maxHeartbeats 4000000 in
theorem machine_any (T : Tab B w p s t) (F : Ful s) (K : Tok t) (hm : misT t = none) (ho : opnT t = none) :
    Calls Try.prog 28 #[.pointer (some ⟨p.b, 0, none⟩)] w fun e w' => ∃ v, e = .returned v ∧ MPost (prM t) w v w' := by
  have hpr : prM t = pickV (hypM t) (reps (Rl t) s.rows.length) (fun j => cl (Rl t) j.toNat) := by unfold prM; rw [T.vw.rl]
  rw [hpr]
  clear hpr
  have HC := hide (T.vw.rcs T.v T.h F)
  have hrl := T.vw.rl
  have hr0 : 0 < s.rows.length := T.vw.r1
  have hr1 := T.v.rl
  have hcls : ∀ q, q < s.ls.length → (s.ln q).cl ≤ 100000000 := fun q hq => by
    obtain ⟨G, g1, g2⟩ := T.h.cl
    have := (g2 q hq).1
    have := T.h.many T.v
    omega
  have HCL := hide hcls
  have h := T.o
  have HO := hide h
  have HV := hide T.v
  have HT := hide T
  have HF := hide F
  have HK := hide K
  have HM := hide hm
  have HOP := hide ho
  have hb0 : Below w.heap.size w (w.alloc (.cells #[.int .i64 0, .int .i64 0, .int .i64 0, .int .i64 0, .slice none 0 0, .slice none 0 0] 27)) := ballo _ _
  obtain ⟨w1, hw1⟩ : ∃ w1, w1 = w.alloc (.cells #[.int .i64 0, .int .i64 0, .int .i64 0, .int .i64 0, .slice none 0 0, .slice none 0 0] 27) := ⟨_, rfl⟩
  have z1 : w1.heap.size = w.heap.size + 1 := by rw [hw1]; simp
  have Z1 : Box w1 w.heap.size mc0 none 0 none 0 := by rw [hw1]; exact Box.alloc w mc0 none 0 none 0 27
  have zf : ∀ i, w1.frozen? ⟨w.heap.size, i, none⟩ = false := fun i => by rw [hw1, frozen?_alloc_cells]; exact frz_new w (Nat.le_refl _)
  have HZ1 := hide Z1
  have HZF := hide zf
  rw [← hw1] at hb0
  have HB0 := hide hb0
  have hbm := ballo w1 (.map #[] 0)
  have hbm0 : Below w.heap.size w (w1.alloc (.map #[] 0)) := bstep hb0 hbm
  have c5 := (h.below hbm0).c5
  obtain ⟨gr, er, -, hcr, -, -, -⟩ := own_at (i := 0) h.rw hr0
  have HRW : Hid (∀ w', To B w' p s → ∀ i, i < s.rows.length → w'.cell? ⟨gr, i, none⟩ = some (.int .i64 ((s.rw i : Nat) : Int))) := hide fun w' h' i hi => by
    obtain ⟨g', e', -, -, -, k0, -⟩ := own_at (i := i) h'.rw hi
    rw [er] at e'
    cases e'
    exact k0
  rw [er] at c5
  have HER := hide er
  have hlen := h.lnc
  have hl2 := T.v.len2
  have hM : Hid (FMap 3 (fun x : Nat => .int .i64 (x : Int)) okI (w1.alloc (.map #[] 0)) (w.heap.size + 1) (reps (Rl t) 0).length (stF (Rl t) s.rc 0)) := hide (by have := FMap.made (K := 3) (ek := fun x : Nat => Value.int .i64 (x : Int)) (ok := okI) w1; rw [z1] at this; exact this)
  have HBM : Hid (Below (w.heap.size + 1) w1 (w1.alloc (.map #[] 0))) := hide (by rw [z1] at hbm; exact hbm)
  clear h T F K hm ho hcls hb0 hbm hbm0 er Z1 zf
  rw [hw1] at c5
  have hmm := @run_makeMap Try.prog
  go_enter Try.func28, Try.ntmps28
  go_wp2
  rw [← hw1]
  clear hw1
  go_loopw [4, 22] (fun v iv wr => ∃ (I : Nat) (a : Option Addr) (c : Nat), iv = .int .i64 (I : Int) ∧ I ≤ s.rows.length ∧ v = .slice a (reps (Rl t) I).length c ∧ Hid (OwnL .i64 3 wr (w.heap.size + 2) v (frP s (Rl t) I)) ∧ Hid (FMap 3 (fun x : Nat => .int .i64 (x : Int)) okI wr (w.heap.size + 1) (reps (Rl t) I).length (stF (Rl t) s.rc I)) ∧ Hid (Below (w.heap.size + 1) w1 wr)) (fun _ iv _ => s.rows.length - (intOf iv).toNat)
  case atStart => exact ⟨0, none, 0, rfl, Nat.zero_le _, rfl, hide (OwnL.nil _ _ _ _), hM, HBM⟩
  case round =>
    clear hM HBM c5
    obtain ⟨I, a, c, rfl, hI, rfl, HW, HMP, HB⟩ := hrel
    have hB := bstep (unhide HB0) (by rw [z1]; exact unhide HB)
    have hO := (unhide HO).below hB
    have hsz := (unhide HB).size
    have d5 := hO.c5
    rw [unhide HER] at d5
    by_cases hlt : I < s.rows.length
    · have hlt' : (I : Int) < (s.rows.length : Int) := by omega
      have hltn : I < t.rows.length := by omega
      have k0 := unhide HRW _ hO I hlt
      have d4 := hO.c4
      have hP := (unhide HV).rwlt hlt
      obtain ⟨-, -, -, l3, -⟩ := hO.lc hP
      have hP' : ((s.rw I : Nat) : Int) < (s.ls.length : Int) := by omega
      have hcc := unhide HCL _ hP
      have hnc : (reps (Rl t) I).length ≤ I := by rw [reps_len]; exact nc_le _ _
      have hlk := FMap.look keysI (unhide HMP) Try.underlying91 (Try.zeroValue3 _) (x := (s.ln (s.rw I)).cl) (show okI _ from by unfold okI; omega)
      have hfl : (frP s (Rl t) I).length = (reps (Rl t) I).length := frP_len _ _ _
      cases e : first (fun j => s.rc j == s.rc I) I with
      | none =>
        obtain ⟨g1, g2⟩ := stF_new (unhide HC) hltn e
        have e1 : stF (Rl t) s.rc I (s.ln (s.rw I)).cl = none := by show stF (Rl t) s.rc I (s.rc I) = none; unfold stF; rw [e]; rfl
        rw [e1] at hlk
        simp only [Option.getD_none, Option.isSome_none] at hlk
        have HFN : Hid (frP s (Rl t) (I + 1) = frP s (Rl t) I ++ [((s.rw I : Nat) : Int)]) := hide (by unfold frP; rw [g1, List.map_append]; rfl)
        have HLN : Hid ((reps (Rl t) (I + 1)).length = (reps (Rl t) I).length + 1) := hide (by rw [g1, List.length_append]; rfl)
        have HG2 : Hid ((fun y => if y = (s.ln (s.rw I)).cl then some (Value.int .i64 (((reps (Rl t) I).length : Nat) : Int)) else stF (Rl t) s.rc I y) = stF (Rl t) s.rc (I + 1)) := hide (by rw [reps_len]; exact g2)
        have HE1 := hide e1
        clear e g1 g2 e1 hO
        generalize (s.ln (s.rw I)).cl = C at *
        generalize s.rw I = P at *
        generalize (reps (Rl t) I).length = N0 at *
        obtain ⟨w2, hup, r1, r2⟩ := FMap.put keysI (unhide HMP) (t := 91) Try.underlying91 (by unfold maxLen; omega) (x := C) (show okI C from by unfold okI; omega) (.int .i64 (N0 : Int))
        have HM2 := hide r1
        have HB2 := hide ((unhide HB).grown r2.grown (by omega) (fun k hk => by cases hk; exact Nat.le_refl _))
        have hW2 := (unhide HW).keep fun j ej => (r2.grown).block j (((unhide HW).lt ej).2) (by have := ((unhide HW).lt ej).1; simp; omega)
        have hz2 := r2.grown.size
        obtain ⟨v3, w3, hr3, ho3, hb3, -, -⟩ := run_pushA (w := w2.alloc (.cells #[.int .i64 (P : Int)] 3)) eLI 57 (w.heap.size + 2) (.slice a N0 c) (frP s (Rl t) I) (hW2.alloc _) ⟨w2.heap.size, 0, none⟩ 1 [(P : Int)] (RdL.one _ _) (by simp only [List.length_cons, List.length_nil]; omega) (by simp; omega)
        obtain ⟨a3, c3, e3, -⟩ := ho3.shape
        have hl3 : (frP s (Rl t) I ++ [(P : Int)]).length = N0 + 1 := by rw [List.length_append, hfl]; rfl
        rw [hl3] at e3
        subst e3
        have HO3 := hide ho3
        have HBB3 := hide hb3
        clear r1 r2 hW2 ho3 hb3
        go_wp2_with (at_builtin; refine Lib.wpList_append_run _ rfl _ _ _ _ rfl _ _ rfl rfl _ _ hr3 ?_)
        go_roundw
        case rel =>
          have hb3 := unhide HBB3
          refine ⟨I + 1, a3, c3, by go_num, hlt, ?_, hide (by rw [unhide HFN]; exact unhide HO3), hide ?_, hide (((unhide HB2).alloc (by omega) _).trans (hb3.mono (by omega)))⟩
          · rw [unhide HLN]
          · have h3 := (unhide HM2).keep (w' := w3) ((hb3.block (w.heap.size + 1) (by omega)).trans ((ballo w2 (.cells #[.int .i64 (P : Int)] 3)).block _ (by have := (unhide HM2).lt; exact this)))
            rw [unhide HE1] at h3
            rw [unhide HLN, ← unhide HG2]
            simpa using h3
        case measure => simp [intOf]; omega
      | some k =>
        obtain ⟨g1, g2⟩ := stF_old (unhide HC) hltn e
        have e1 : (stF (Rl t) s.rc I (s.ln (s.rw I)).cl).isSome = true := by
          show (stF (Rl t) s.rc I (s.rc I)).isSome = true
          unfold stF; rw [e]; rfl
        rw [e1] at hlk
        have HFN : Hid (frP s (Rl t) (I + 1) = frP s (Rl t) I) := hide (by unfold frP; rw [g1])
        have HG1 := hide g1
        have HG2 := hide g2
        clear e g1 g2 e1 hO
        generalize (stF (Rl t) s.rc I (s.ln (s.rw I)).cl).getD (.int .i64 0) = V at *
        generalize (s.ln (s.rw I)).cl = C at *
        generalize s.rw I = P at *
        go_wp2
        go_roundw
        case rel => exact ⟨I + 1, a, c, by go_num, hlt, by rw [unhide HG1], hide (by rw [unhide HFN]; exact unhide HW), hide (by rw [unhide HG1, ← unhide HG2]; exact unhide HMP), HB⟩
        case measure => simp [intOf]; omega
    · obtain rfl : I = s.rows.length := by omega
      have d0 := hO.c0
      have d1 := hO.c1
      have d2 := hO.c2
      have hpl := hO.o.lt
      have HZ0 := hide (box_on (unhide HZ1) (unhide HB) (by omega))
      have HZF0 := hide fun i => frz_on (unhide HZF i) (unhide HB) (by omega)
      have hS0 : 0 < (reps (Rl t) s.rows.length).length := by rw [← hrl]; exact (reps_zero (unhide HK)).1
      obtain ⟨gf, cf, ef, -, -, -, hgf, hcf, -⟩ := (unhide HW).pos (by rw [frP_len]; exact hS0)
      rw [frP_len] at ef
      injection ef with e1 e2 e3
      subst e1 e3
      have HFC : Hid (∀ wx, Below wr.heap.size wr wx → ∀ i, i < (reps (Rl t) s.rows.length).length → wx.cell? ⟨gf, i, none⟩ = some (.int .i64 ((s.rw ((reps (Rl t) s.rows.length).getD i 0).toNat : Nat) : Int))) := hide fun wx hx i hi => by
        rw [hx.cell (p := ⟨gf, i, none⟩) hgf, hcf i (by rw [frP_len]; exact hi)]
        unfold frP
        rw [List.getD_eq_getElem?_getD, List.getElem?_map, List.getElem?_eq_getElem hi, List.getD_eq_getElem?_getD, List.getElem?_eq_getElem hi]; rfl
      have hmlt := (unhide HMP).lt
      have hwz : w.heap.size ≤ wr.heap.size := by omega
      have mk0 : Mk (wr.alloc (.cells #[.int .i64 s.kind, .int .i64 (s.K : Int), .int .i64 s.o, .int .i64 ((reps (Rl t) s.rows.length).length : Nat), .slice none 0 0, .slice none 0 0] 27)) wr.heap.size s.kind (s.K : Int) s.o ((reps (Rl t) s.rows.length).length : Nat) (.slice none 0 0) (.slice none 0 0) := by
        refine ⟨?_, ?_, ?_, ?_, ?_, ?_, ?_, ?_⟩
        all_goals first | (rw [frozen?_alloc_cells]; exact frz_new wr (Nat.le_refl _)) | simp
      have I0 : NInv (hypM t) (reps (Rl t) s.rows.length).length w wr (wr.alloc (.cells #[.int .i64 s.kind, .int .i64 (s.K : Int), .int .i64 s.o, .int .i64 ((reps (Rl t) s.rows.length).length : Nat), .slice none 0 0, .slice none 0 0] 27)).drew wr.heap.size (.slice none 0 0) (.slice none 0 0) (nxR (hypM t) (fun j => cl (Rl t) j.toNat) ((reps (Rl t) s.rows.length).take 0)) (ouR (hypM t) ((reps (Rl t) s.rows.length).take 0)) := by
        refine ⟨?_, OwnL.nil _ _ _ _, OwnL.nil _ _ _ _, (fun j e => by cases e), (bstep hB (ballo _ _)).drew, (ballo _ _).drew, hwz⟩
        rw [show (hypM t).kind = s.kind from (unhide HT).vw.kd, show (hypM t).k = (s.K : Int) from (unhide HT).vw.k, show (hypM t).o = s.o from (unhide HT).vw.o]
        exact mk0.keep rfl
      have HI0 := hide I0
      have HP0 := hide fun (k : Nat) (hk : p.has k) => ((unhide HO).hlt hk).2
      clear hO d5 I0 mk0 hcf hgf HZ1 HZF HRW hB
      go_wp2
      go_region
      generalize wr = w0 at *
      go_wp2
      go_loopw [68] (fun iv wx => ∃ (I : Nat) (a1 : Option Addr) (n1 c1 : Nat) (a2 : Option Addr) (n2 c2 : Nat), iv = .int .i64 (I : Int) ∧ I ≤ (reps (Rl t) s.rows.length).length ∧ Hid (NInv (hypM t) (reps (Rl t) s.rows.length).length w w0 wx w0.heap.size (.slice a1 n1 c1) (.slice a2 n2 c2) (nxR (hypM t) (fun j => cl (Rl t) j.toNat) ((reps (Rl t) s.rows.length).take I)) (ouR (hypM t) ((reps (Rl t) s.rows.length).take I)))) (fun iv _ => (reps (Rl t) s.rows.length).length - (intOf iv).toNat)
      case atStart => exact ⟨0, _, _, _, _, _, _, rfl, Nat.zero_le _, HI0⟩
      case round =>
        clear HI0 d0 d1 d2
        obtain ⟨I, a1, n1, c1, a2, n2, c2, rfl, hI, HN⟩ := hrel
        have hN := unhide HN
        have hd := hN.d1
        have hO := (unhide HO).below hN.b1
        have hSL : (reps (Rl t) s.rows.length).length ≤ 1024 := by rw [reps_len]; exact Nat.le_trans (nc_le _ _) hr1
        have hkK : (hypM t).k.toNat = s.K := by have := (unhide HT).vw.k; show t.k.toNat = _; omega
        have hK2 := (unhide HV).k2
        by_cases hlt : I < (reps (Rl t) s.rows.length).length
        · obtain ⟨r, hrs, -, hSr, -⟩ := reps_mem hlt
          have k0 := unhide HFC _ hd I hlt
          rw [hSr, Int.toNat_natCast] at k0
          have d1 := hO.c1
          have HSr := hide hSr
          have hlt' : (I : Int) < ((reps (Rl t) s.rows.length).length : Int) := by omega
          have hP := (unhide HV).rwlt hrs
          have HED := hide ((unhide HV).rg r hrs).2
          have hKr : s.K * r ≤ 64 * 1024 := Nat.mul_le_mul hK2 (by omega)
          have HTK := hide (take_snoc hlt)
          have HPP := hide hP
          have HKK := hide hkK
          clear hSr hN hd hO hkK
          go_wp2
          go_loopw [76] (fun iv wx => ∃ (X : Nat) (a1 : Option Addr) (n1 c1 : Nat) (a2 : Option Addr) (n2 c2 : Nat), iv = .int .i64 (X : Int) ∧ X ≤ s.K ∧ Hid (NInv (hypM t) (reps (Rl t) s.rows.length).length w w0 wx w0.heap.size (.slice a1 n1 c1) (.slice a2 n2 c2) (nxR (hypM t) (fun j => cl (Rl t) j.toNat) ((reps (Rl t) s.rows.length).take I) ++ rowN (hypM t) (fun j => cl (Rl t) j.toNat) (r : Int) X) (ouR (hypM t) ((reps (Rl t) s.rows.length).take I)))) (fun iv _ => s.K - (intOf iv).toNat)
          case atStart => exact ⟨0, a1, n1, c1, a2, n2, c2, rfl, Nat.zero_le _, hide (by have h3 := unhide HN; have e : rowN (hypM t) (fun j => cl (Rl t) j.toNat) (r : Int) 0 = [] := rfl; rw [e, List.append_nil]; exact h3)⟩
          case round =>
            clear HN d1 k0
            obtain ⟨X, b1, m1, e1, b2, m2, e2, rfl, hX, HN⟩ := hrel
            have hN := unhide HN
            have hd := hN.d1
            have hO := (unhide HO).below hN.b1
            have hbl : w0.heap.size < wr.heap.size := World.block_lt_of_cell? wr _ hN.m0.c0
            by_cases hx : X < s.K
            · have hx' : (X : Int) < (s.K : Int) := by omega
              obtain ⟨q, q1, q2, q3, -⟩ := rowI_is (opn_none (unhide HM) (unhide HOP) (edge_mem (unhide HK) (i := r) (x := X) (by omega) (by have := (unhide HT).vw.k; omega)))
              have hcl := (unhide HT).vw.ledTo (unhide HV) (unhide HT).h (unhide HF) hrs hx q1 q3
              have hf := stF_at (rl_eqv t t.rows.length) (unhide HC) (I := s.rows.length) (by omega) (i := q) (by omega) hcl
              have hnx : nxt (hypM t) (r : Int) (X : Int) = (q : Int) := by rw [hyp_nx (unhide HT).vw.k (by omega) hx, ← Tb.rw_at (by omega), q2]
              have EZ : Hid (nxR (hypM t) (fun j => cl (Rl t) j.toNat) ((reps (Rl t) s.rows.length).take I) ++ rowN (hypM t) (fun j => cl (Rl t) j.toNat) (r : Int) X ++ [cl (Rl t) q] = nxR (hypM t) (fun j => cl (Rl t) j.toNat) ((reps (Rl t) s.rows.length).take I) ++ rowN (hypM t) (fun j => cl (Rl t) j.toNat) (r : Int) (X + 1)) := hide (by rw [rowN_succ, hnx, List.append_assoc]; rfl)
              have hA : (nxR (hypM t) (fun j => cl (Rl t) j.toNat) ((reps (Rl t) s.rows.length).take I) ++ rowN (hypM t) (fun j => cl (Rl t) j.toNat) (r : Int) X).length ≤ 1000000 := by
                rw [List.length_append, nxR_len, rowN_len, List.length_take, Nat.min_eq_left (by omega), unhide HKK]
                have : I * s.K ≤ 1024 * 64 := Nat.mul_le_mul (by omega) hK2
                omega
              have hob1 : ∀ k, obk b1 = some k → w0.heap.size + 1 ≤ k ∧ k < wr.heap.size := fun k e => hN.o1.lt (by rw [ob_sl]; exact e)
              have hQl := (unhide HV).edge hrs hx
              have hok : okI (s.ln (1 + s.K * r + X)).cl := by unfold okI; have := unhide HCL _ hQl; omega
              have hMW := (unhide HMP).below hd
              have hE : (s.ln (s.rw r)).ed ≤ 1000000 := by rw [unhide HED]; omega
              have hQ : ((s.ln (s.rw r)).ed : Int) + (X : Int) = ((1 + s.K * r + X : Nat) : Int) := by rw [unhide HED]; omega
              have HH := hide (show _ ∧ _ ∧ _ ∧ _ ∧ _ ∧ _ ∧ _ ∧ _ ∧ _ from ⟨hO, hN, hob1, hQl, hok, hMW, hE, hQ, hf⟩)
              have HA := hide hA
              clear hO hN hob1 hQl hok hMW hE hQ hf hA hnx hcl q3 q2 hd
              go_wp2
              obtain ⟨hO, hN, hob1, hQl, hok, hMW, hE, hQ, hf⟩ := unhide HH
              refine mra_region _ wr.heap.size B p s w0.heap.size (w.heap.size + 1) (s.rw r) X (1 + s.K * r + X) b1 m1 e1 _ (cl (Rl t) q) _ _ _ _ _ _ _ _ _ _ _ _ _ _ _ _ _ _ _ _ _ _ _ _ _ _ _ _ _ _ _ _ _ _ _ _ _ _ _ _ _ _ _ _ _ _ _ _ _ _ _ _ _ _ _ _ _ _ _ _ _ _ _ _ _ _ _ _ _ _ _ _ _ _ _ _ _ _ _ _ _ _ _ _ _ _ _ _ _ _ _ _ _ _ _ _ _ _ _ _ _ _ _ _ _ _ _ _ _ _ _ _ _ _ _ _ _ _ _ _ _ _ rfl hO hN.m0.c4 hN.m0.f4 hN.o1 (fun e => by have := (hob1 _ e).1; omega) (fun k hk e => by have := (hob1 _ e).1; have := unhide HP0 k hk; omega) (fun e => by have := (hob1 _ e).1; omega) (fun k e hk => by have := (hob1 _ e).2; omega) _ (stF (Rl t) s.rc s.rows.length) hMW (unhide HPP) hE (by omega) hQ hQl hok hf (unhide HA) hbl ?_
              rintro Zw x0 x1 x2 x3 x4 x5 x6 x7 x8 x9 x10 x11 x12 x13 x14 x15 x16 x17 ⟨X', a', c', hX', hO', hat, hZ⟩
              generalize (nxR (hypM t) (fun j => cl (Rl t) j.toNat) ((reps (Rl t) s.rows.length).take I) ++ rowN (hypM t) (fun j => cl (Rl t) j.toNat) (r : Int) X).length + 1 = n' at hO' hZ
              subst hZ
              have HN2 := hide (by have h3 := hN.done1 (M := [cl (Rl t) q]) hX' hO' hat; rw [unhide EZ] at h3; exact h3)
              clear hO hN hob1 hQl hok hMW hE hQ hf hX' hO' hat HN HH
              go_wp2
              go_roundw
              case rel => exact ⟨X + 1, a', _, c', b2, m2, e2, by go_num, hx, HN2⟩
              case measure => simp [intOf]; omega
            · obtain rfl : X = s.K := by omega
              have hAe : nxR (hypM t) (fun j => cl (Rl t) j.toNat) ((reps (Rl t) s.rows.length).take I) ++ rowN (hypM t) (fun j => cl (Rl t) j.toNat) (r : Int) s.K = nxR (hypM t) (fun j => cl (Rl t) j.toNat) ((reps (Rl t) s.rows.length).take (I + 1)) := by rw [unhide HTK, nxR_snoc, unhide HSr, unhide HKK]
              rw [hAe] at hN
              have HNA := hide hN
              have hCL : (s.cst (s.rw r) (tnC s.kind (s.K : Int)).length).length = (tnC s.kind (s.K : Int)).length := by simp [Ts.cst]
              have hkd := (unhide HV).kd
              have hC0 : 0 < (s.cst (s.rw r) (tnC s.kind (s.K : Int)).length).length := by
                have := (unhide HV).k1
                rw [hCL, tnC_len]; split <;> omega
              have hn : (tnC s.kind (s.K : Int)).length ≤ s.cols.length := by
                obtain ⟨L, hL⟩ := (unhide HK).cs
                have := congrArg List.length hL
                rw [(unhide HT).vw.cols, (unhide HT).vw.kd, (unhide HT).vw.k, List.length_append] at this
                omega
              have HOH := hide hO
              have hob2 : ∀ k, obk b2 = some k → w0.heap.size + 1 ≤ k ∧ k < wr.heap.size := fun k e => hN.o2.lt (by rw [ob_sl]; exact e)
              have HB2 := hide hob2
              clear hO hN hd hob2 hAe
              go_wp2
              refine mrc_region _ wr.heap.size p.b (s.rw r) s.K s.kind (s.cst (s.rw r) (tnC s.kind (s.K : Int)).length) _ _ _ _ _ _ _ _ _ _ _ _ _ _ _ _ _ _ _ _ _ _ _ _ _ _ _ _ _ _ _ _ _ _ _ _ _ _ _ _ _ _ _ _ _ _ _ _ _ _ _ _ _ _ _ _ _ _ _ _ _ _ _ _ _ _ _ _ _ _ _ _ _ _ _ _ _ _ _ _ _ _ _ _ _ _ _ _ _ _ _ _ _ _ _ _ _ _ _ _ _ _ _ _ _ _ _ _ _ _ _ _ _ _ _ _ _ _ _ _ _ _ _ _ _ (unhide HOH).c0 (unhide HOH).c1 hkd hK2 (fun Y hY => (cellsOf_any ((unhide HOH).below hY) (unhide HV) (unhide HPP) hn).mono fun e w' ⟨v, e1, hv, hb⟩ => ⟨v, e1, hv.mono (by have := hY.size; omega), hb⟩) ?_
              rintro Y x0 x1 x2 x3 x4 x5 x6 x7 x8 x9 x10 x11 x12 hY hOC
              obtain ⟨gc, cc, rfl, -, -, hgc, hgc2, hcc, -⟩ := hOC.pos spE_len [] hC0
              have HNY := hide ((unhide HNA).step hY)
              have HCC := hide fun i (hi : i < (s.cst (s.rw r) (tnC s.kind (s.K : Int)).length).length) => by have := hcc i 0 hi (by omega); rw [Nat.mul_one, Nat.add_zero] at this; exact this
              have hYs := hY.size
              have HYB := hide fun (k : Nat) (e : obk b2 = some k) => by have := (unhide HB2 k e).2; omega
              have HYk : Hid (∀ k, obk b2 = some k → k ≠ gc) := hide fun k e => by have := (unhide HB2 k e).2; omega
              have hgw : w0.heap.size < gc := by omega
              have hnl : (tnC s.kind (s.K : Int)).length ≤ 64 := by
                rw [tnC_len]; split <;> omega
              have EO : Hid (ouR (hypM t) ((reps (Rl t) s.rows.length).take I) ++ ((s.cst (s.rw r) (tnC s.kind (s.K : Int)).length).take (s.cst (s.rw r) (tnC s.kind (s.K : Int)).length).length).flatMap id = ouR (hypM t) ((reps (Rl t) s.rows.length).take (I + 1))) := hide (by
                have hr' : r < t.rows.length := by omega
                rw [List.take_length, (unhide HK).hyOs (unhide HT).vw (unhide HV) hrs, unhide HTK, ouR_snoc, unhide HSr, hyp_out (unhide HK) (unhide HM) hr'])
              have HOL : Hid (∀ J, J ≤ (s.cst (s.rw r) (tnC s.kind (s.K : Int)).length).length → (ouR (hypM t) ((reps (Rl t) s.rows.length).take I) ++ ((s.cst (s.rw r) (tnC s.kind (s.K : Int)).length).take J).flatMap id).length ≤ 1000000) := hide fun J hJ => by
                have hpp : pp (hypM t) ≤ 64 := by
                  unfold pp
                  rw [unhide HKK]; split <;> omega
                rw [List.length_append, ouR_len, List.length_take, Nat.min_eq_left (by omega), flat_len (fun c hc => by
                  obtain ⟨y, hy, -⟩ := (unhide HK).one (unhide HT).vw (unhide HV) (unhide HM) hrs (c := c) (by rw [← hCL]; exact hc)
                  rw [hy]; rfl) J hJ]
                have : I * pp (hypM t) ≤ 1024 * 64 := Nat.mul_le_mul (by omega) hpp
                omega
              have HON := hide fun (c : Nat) (hc : c < (s.cst (s.rw r) (tnC s.kind (s.K : Int)).length).length) => (unhide HK).one (unhide HT).vw (unhide HV) (unhide HM) hrs (c := c) (by rw [← hCL]; exact hc)
              have HST := hide fun (J : Nat) (hJ : J < (s.cst (s.rw r) (tnC s.kind (s.K : Int)).length).length) => flat_take hJ
              clear hOC hcc hY HOH HNA HB2
              go_wp2
              generalize (s.cst (s.rw r) (tnC s.kind (s.K : Int)).length) = C at *
              go_loopw [112] (fun iv wx => ∃ (J : Nat) (a2 : Option Addr) (n2 c2 : Nat), iv = .int .i64 (J : Int) ∧ J ≤ C.length ∧ Hid (NInv (hypM t) (reps (Rl t) s.rows.length).length w w0 wx w0.heap.size (.slice b1 m1 e1) (.slice a2 n2 c2) (nxR (hypM t) (fun j => cl (Rl t) j.toNat) ((reps (Rl t) s.rows.length).take (I + 1))) (ouR (hypM t) ((reps (Rl t) s.rows.length).take I) ++ (C.take J).flatMap id)) ∧ Hid (∀ i, i < C.length → wx.cell? ⟨gc, i, none⟩ = some (.string (sp (C.getD i [])))) ∧ Hid (Y.heap.size ≤ wx.heap.size ∧ ∀ k, obk a2 = some k → k ≠ gc)) (fun iv _ => C.length - (intOf iv).toNat)
              case atStart => exact ⟨0, b2, m2, e2, rfl, Nat.zero_le _, hide (by have h3 := unhide HNY; simpa using h3), HCC, hide ⟨Nat.le_refl _, unhide HYk⟩⟩
              case round =>
                clear HNY HCC HYk HYB
                obtain ⟨J, d2, l2, f2, rfl, hJ, HNJ, HCC, HYS⟩ := hrel
                by_cases hj : J < C.length
                · have hj' : (J : Int) < (C.length : Int) := by omega
                  obtain ⟨y, hy, hsy⟩ := unhide HON J hj
                  have k0 := unhide HCC J hj
                  have EY := hide (unhide HST J hj)
                  rw [hy] at k0 EY
                  have hLL := unhide HOL J (by omega)
                  have hNJ := (unhide HNJ).step (ballo wr (.cells #[.string (sp [y])] 73))
                  have hob2 : ∀ k, obk d2 = some k → w0.heap.size + 1 ≤ k ∧ k < wr.heap.size := fun k e => (unhide HNJ).o2.lt (by rw [ob_sl]; exact e)
                  have hbl : w0.heap.size < wr.heap.size := World.block_lt_of_cell? wr _ (unhide HNJ).m0.c0
                  have HH := hide (show _ ∧ _ ∧ _ ∧ _ from ⟨hNJ, hob2, hLL, hsy⟩)
                  clear hNJ hob2 hLL hsy hy
                  go_wp2
                  obtain ⟨hNJ, hob2, hLL, hsy⟩ := unhide HH
                  refine mrb_region _ _ w0.heap.size wr.heap.size d2 l2 f2 _ y _ _ _ _ _ _ _ _ _ _ _ _ _ _ _ _ _ _ _ _ _ _ _ _ _ _ _ _ _ _ _ _ _ _ _ _ _ _ _ _ _ _ _ _ _ _ _ _ _ _ _ _ _ _ _ _ _ _ _ _ _ _ _ _ _ _ _ _ _ _ _ _ _ _ _ _ _ _ _ _ _ _ _ _ _ _ _ _ _ _ _ _ _ _ _ _ _ _ _ _ _ _ _ _ _ _ _ _ _ _ _ _ _ _ _ _ _ _ _ _ _ _ _ _ _ rfl hNJ.m0.c5 hNJ.m0.f5 hNJ.o2 (by simp) hsy (fun e => by have := (hob2 _ e).1; omega) (fun e => by have := (hob2 _ e).2; omega) (fun k e hk => by have := (hob2 _ e).2; simp at hk; omega) hLL (by simp; omega) ?_
                  rintro Zw x0 x1 x2 x3 x4 x5 x6 ⟨X', a', c', hX', hO', hat, hZ⟩
                  generalize (ouR (hypM t) ((reps (Rl t) s.rows.length).take I) ++ (C.take J).flatMap id).length + 1 = n' at hO' hZ
                  subst hZ
                  have HN2 := hide (by have h3 := hNJ.done2 (M := [y]) hX' hO' hat; rw [List.append_assoc, ← unhide EY] at h3; exact h3)
                  have HCC2 : Hid (∀ i, i < C.length → (X'.setCell ⟨w0.heap.size, 5, none⟩ (.slice a' n' c')).cell? ⟨gc, i, none⟩ = some (.string (sp (C.getD i [])))) := hide fun i hi => by
                    rw [World.cell?_setCell_other (h := fun e => by injection e with e1 _ _; omega)]
                    have h4 := unhide HCC i hi
                    exact hX'.cell (p := ⟨gc, i, none⟩) (((ballo wr (.cells #[.string (sp [y])] 73)).cell (p := ⟨gc, i, none⟩) (World.block_lt_of_cell? wr _ h4)).trans h4) (fun e => (unhide HYS).2 _ e rfl)
                  have HYS2 : Hid (Y.heap.size ≤ (X'.setCell ⟨w0.heap.size, 5, none⟩ (.slice a' n' c')).heap.size ∧ ∀ k, obk a' = some k → k ≠ gc) := hide ⟨by
                    have h1 := hX'.size
                    have h2 := (unhide HYS).1
                    rw [World.size_setCell]
                    simp at h1
                    omega, fun k e => by
                    rcases hat k e with h1 | h1
                    · exact (unhide HYS).2 k h1
                    · have h2 := (unhide HYS).1
                      simp at h1
                      omega⟩
                  clear hNJ hob2 hLL hsy hX' hO' hat HNJ HH HCC HYS
                  go_wp2
                  go_roundw
                  case rel => exact ⟨J + 1, a', _, c', by go_num, hj, HN2, HCC2, HYS2⟩
                  case measure => simp [intOf]; omega
                · obtain rfl : J = C.length := by omega
                  have HN2 := hide (by have h3 := unhide HNJ; rw [unhide EO] at h3; exact h3)
                  clear HNJ HCC HYS
                  go_wp2
                  go_roundw
                  case rel => exact ⟨I + 1, b1, m1, e1, d2, l2, f2, by go_num, hlt, HN2⟩
                  case measure => simp [intOf]; omega
        · have he : I = (reps (Rl t) s.rows.length).length := by omega
          subst he
          rw [List.take_length] at HN
          have hN := unhide HN
          obtain ⟨av, cv, ev, -⟩ := hN.o1.shape
          obtain ⟨aw, cw, ew, -⟩ := hN.o2.shape
          injection ev with q1 q2 q3
          subst q1 q2 q3
          injection ew with q1 q2 q3
          subst q1 q2 q3
          obtain ⟨m0, m1, m2, m3, m4, m5, f4, f5⟩ := hN.m0
          obtain ⟨z0, z1, z3, z4, z5, z6⟩ := box_on (unhide HZ0) hN.d1 (by omega)
          have hzr : ∀ j, wr.frozen? ⟨w.heap.size, j, none⟩ = false := fun j => frz_on (unhide HZF0 j) hN.d1 (by omega)
          have g0 := hzr 0
          have g1 := hzr 1
          have g2 := hzr 2
          have g3 := hzr 3
          have g4 := hzr 4
          have g5 := hzr 5
          have HN3 := hide hN
          have m3' : wr.cell? ⟨w0.heap.size, 3, none⟩ = some (.int .i64 ((reps (Rl t) s.rows.length).length : Nat)) := m3
          clear m3 hN hzr hd hO
          go_wp2
          change bodyPost _ _ _ _ _ (six wr w.heap.size (pickV (hypM t) (reps (Rl t) s.rows.length) (fun j => cl (Rl t) j.toNat)) a1 c1 a2 c2)
          have Q6 : Box (six wr w.heap.size (pickV (hypM t) (reps (Rl t) s.rows.length) (fun j => cl (Rl t) j.toNat)) a1 c1 a2 c2) _ _ _ _ _ _ := (Box.mk (w := wr) (b := w.heap.size) (m := mc0) (a1 := none) (c1 := 0) (a2 := none) (c2 := 0) z0 z1 z3 z4 z5 z6).six (pickV (hypM t) (reps (Rl t) s.rows.length) (fun j => cl (Rl t) j.toNat)) a1 c1 a2 c2
          have b6 := six_below (unhide HN3).b1 (b := w.heap.size) (by omega) (pickV (hypM t) (reps (Rl t) s.rows.length) (fun j => cl (Rl t) j.toNat)) a1 c1 a2 c2
          have e1 := ((unhide HN3).o1.keep fun j e => six_heap wr (pickV (hypM t) (reps (Rl t) s.rows.length) (fun j => cl (Rl t) j.toNat)) a1 c1 a2 c2 (b := w.heap.size) (by have := ((unhide HN3).o1.lt e).1; omega)).mono (B' := w.heap.size) (by omega)
          have e2 := ((unhide HN3).o2.keep fun j e => six_heap wr (pickV (hypM t) (reps (Rl t) s.rows.length) (fun j => cl (Rl t) j.toNat)) a1 c1 a2 c2 (b := w.heap.size) (by have := ((unhide HN3).o2.lt e).1; omega)).mono (B' := w.heap.size) (by omega)
          have hap := (unhide HN3).ap
          clear HN3 HN
          generalize six wr w.heap.size (pickV (hypM t) (reps (Rl t) s.rows.length) (fun j => cl (Rl t) j.toNat)) a1 c1 a2 c2 = w6 at *
          obtain ⟨q0, q1, q2, q3, q4, q5⟩ := Q6
          refine bodyPost_ret (v := mval (pickV (hypM t) (reps (Rl t) s.rows.length) (fun j => cl (Rl t) j.toNat)) a1 c1 a2 c2) ?_ rfl ⟨_, rfl, a1, c1, a2, c2, rfl, e1, e2, hap, b6⟩
          unfold mval
          simp [results, Try.results28, go_sem, q0, q1, q2, q3, q4, q5]
end

end Go.Proofs.Ytepmdnggiajkbaa
