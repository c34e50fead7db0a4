/-
  Some texts of this seat, one behind the other.
-/
import Derived.Test.YtepmdnggiajkbaaCheck
import Derived.Test.YtepmdnggiajkbaaK37
import Derived.Test.YtepmdnggiajkbaaK38
import Derived.Test.YtepmdnggiajkbaaLsAdd
import Derived.Test.YtepmdnggiajkbaaUWch
/-
  The program's table: New.
-/
namespace Go.Proofs.Ytepmdnggiajkbaa
set_option linter.unusedVariables false
open Go.RowKit

/-- The program's table stands for the document's. -/
structure Tab (B : Nat) (w : World) (p : Tl) (s : Ts) (t : Tb) : Prop where
  o : To B w p s
  v : Vi s
  h : Hd s
  vw : Vw s t
  b : B ≤ w.heap.size
  ob : s.o ≤ 64
  nf : s.nf ≤ t.ws.length
def Ts.ini (kind : Int) (K : Nat) (o : Int) : Ts := ⟨kind, K, o, fun _ => none, 0, [ln0], [], [0], [], [], []⟩
theorem Vi.ini {kind o : Int} {K : Nat} (hk : kind = 1 ∨ kind = 2) (h1 : 1 ≤ K) (h2 : K ≤ 64) : Vi (Ts.ini kind K o) where
  k1 := h1
  k2 := h2
  kd := hk
  len := rfl
  rl := Nat.zero_le _
  r0 := rfl
  rg := fun i hi => absurd hi (Nat.not_lt_zero _)
  ed := fun i x hi => absurd hi (Nat.not_lt_zero _)
  no := fun p _ => by
    rcases Nat.eq_zero_or_pos p with c | c
    · subst c; rfl
    · show ([ln0].getD p ln0).ed = 0
      rw [List.getD_eq_getElem?_getD, List.getElem?_eq_none (by show 1 ≤ p; omega)]; rfl
  nd := fun i j hi hj _ => by
    have hi' : i < 1 := hi
    have hj' : j < 1 := hj
    omega
  sy := fun i x hx => by
    exfalso
    have hx' : x ∈ ([ln0].getD i ln0).wd := hx
    rcases Nat.eq_zero_or_pos i with c | c
    · subst c; exact absurd hx' (by show ¬ x ∈ []; simp)
    · rw [List.getD_eq_getElem?_getD, List.getElem?_eq_none (by show 1 ≤ i; omega)] at hx'; exact absurd hx' (by show ¬ x ∈ []; simp)
  wl := fun i hi => by
    have hi' : i < 1 := hi
    obtain rfl : i = 0 := by omega
    exact Nat.zero_le _
  ol := rfl
  om := fun i hi => by
    have hi' : i < 1 := hi
    obtain rfl : i = 0 := by omega
    exact Nat.one_pos
  os := fun i j hij hj => by
    have hj' : j < 1 := hj
    omega
  oa := fun p hp => by
    have hp' : p < 1 := hp
    obtain rfl : p = 0 := by omega
    exact ⟨0, Nat.one_pos, rfl⟩
  cl := Nat.zero_le _
  cw := fun e he => absurd he (by show ¬ e ∈ []; simp)
  cn := List.nodup_nil
  kl := rfl
  fw := fun w o h => by cases h
theorem Hd.ini (kind o : Int) (K : Nat) : Hd (Ts.ini kind K o) :=
  ⟨⟨rfl, fun c hc => absurd hc (Nat.not_lt_zero _)⟩, fun i hi => by
    have hi' : i < 1 := hi
    obtain rfl : i = 0 := by omega
    exact ⟨Nat.zero_le _, fun c hc => absurd hc (Nat.not_lt_zero _)⟩, ⟨_, ClO.zero, fun i hi => by
    have hi' : i < 1 := hi
    obtain rfl : i = 0 := by omega
    exact ⟨Nat.zero_le _, rfl⟩⟩, Nat.zero_le _⟩
/-- The table ahead of its first row. -/
def p0 (b m1 m2 g1 g2 : Nat) : Tl := ⟨b, m1, m2, g1, 1, g2, 1, none, 0, none, 0, none, 0⟩
theorem To.ini {B : Nat} {W : World} {b m1 m2 g1 g2 K : Nat} {kind o : Int} (hb : Bk W b [.int .i64 kind, .int .i64 (K : Int), .int .i64 o, .map (some m1), .slice (some ⟨g1, 0, none⟩) 1 1, .slice none 0 0, .slice (some ⟨g2, 0, none⟩) 1 1, .slice none 0 0, .slice none 0 0, .map (some m2)] 62)
    (h1 : FMap 47 (fun l : List Int => .string (sp l)) okS W m1 0 (fun _ => none)) (h2 : FMap 90 ekP okP W m2 0 (fun _ => none)) (hg1 : Bk W g1 (lnE ln0) 54) (hg2 : Bk W g2 [.int .i64 0] 3)
    (hB : B ≤ m1) (e2 : m2 = m1 + 1) (e3 : b = m1 + 2) (e4 : g1 = m1 + 3) (e5 : g2 = m1 + 4) : To B W (p0 b m1 m2 g1 g2) (Ts.ini kind K o) := by
  refine ⟨hb, h1, ?_, ?_, ?_, OwnL.nil _ _ _ _, OwnG.nil _ _, OwnL.nil _ _ _ _, ?_, ⟨by show B ≤ b; omega, hB, by show B ≤ m2; omega⟩⟩
  · have : clsF [] = fun _ => none := by funext x; unfold clsF; simp
    show FMap _ _ _ _ _ _ (clsF [])
    rw [this]; exact h2
  · exact ⟨rfl, .inr ⟨g1, 1, _, rfl, by omega, hg1, Nat.le_refl _, by unfold maxLen; omega, rfl, rfl⟩⟩
  · exact ⟨rfl, .inr ⟨g2, 1, _, rfl, by omega, hg2, Nat.le_refl _, by unfold maxLen; omega, rfl, rfl⟩⟩
  · intro i j k hi hj
    have key : ∀ i k, (p0 b m1 m2 g1 g2).bk i = some k → (i = 0 ∧ k = b) ∨ (i = 1 ∧ k = m1) ∨ (i = 2 ∧ k = m2) ∨ (i = 3 ∧ k = g1) ∨ (i = 4 ∧ k = g2) := fun i k h => by
      unfold Tl.bk p0 at h
      split at h
      · cases h; exact .inl ⟨by assumption, rfl⟩
      split at h
      · cases h; exact .inr (.inl ⟨by assumption, rfl⟩)
      split at h
      · cases h; exact .inr (.inr (.inl ⟨by assumption, rfl⟩))
      split at h
      · cases h; exact .inr (.inr (.inr (.inl ⟨by assumption, rfl⟩)))
      split at h
      · cases h; exact .inr (.inr (.inr (.inr ⟨by assumption, rfl⟩)))
      split at h
      · cases h
      split at h
      · cases h
      split at h
      · cases h
      · cases h
    have a := key i k hi
    have b := key j k hj
    omega
/-- What New leaves. -/
def NewP (kind k o : Int) (w : World) (e : Ending) (w' : World) : Prop :=
  (tnE kind k o ≠ 0 ∧ e = .returned (.tuple #[.pointer none, .int .i64 (tnE kind k o)]) ∧ Below w.heap.size w w') ∨
  (tnE kind k o = 0 ∧ ∃ p s, e = .returned (.tuple #[.pointer (some ⟨p.b, 0, none⟩), .int .i64 0]) ∧ Tab w.heap.size w' p s (tnV kind k o) ∧ Below w.heap.size w w')
theorem to_ini5 (w : World) (kind o : Int) (K : Nat) : To w.heap.size (((((w.alloc (.map #[] 0)).alloc (.map #[] 0)).alloc (.cells #[.int .i64 kind, .int .i64 (K : Int), .int .i64 o, .map (some w.heap.size), .slice (some ⟨w.heap.size + 1 + 1 + 1, 0, none⟩) 1 1, .slice none 0 0, .slice (some ⟨w.heap.size + 1 + 1 + 1 + 1, 0, none⟩) 1 1, .slice none 0 0, .slice none 0 0, .map (some (w.heap.size + 1))] 62)).alloc (.cells #[.string ⟨#[]⟩, .int .i64 0, .int .i64 0, .int .i64 0] 54)).alloc (.cells #[.int .i64 0] 3))
    (p0 (w.heap.size + 1 + 1) w.heap.size (w.heap.size + 1) (w.heap.size + 1 + 1 + 1) (w.heap.size + 1 + 1 + 1 + 1)) (Ts.ini kind K o) := by
  have z1 : ∀ (W : World) (o : Obj), (W.alloc o).heap.size = W.heap.size + 1 := fun W o => by simp
  have keep : ∀ (W : World) (o : Obj) (k : Nat) (x : Obj), W.heap[k]? = some x → (W.alloc o).heap[k]? = some x := fun W o k x h => ((ballo W o).block k (Array.getElem?_eq_some_iff.1 h).1).trans h
  have new : ∀ (W : World) (o : Obj) (k : Nat), k = W.heap.size → (W.alloc o).heap[k]? = some o := fun W o k e => by subst e; exact heap_alloc_new _ _
  refine To.ini (K := K) ?_ ?_ ?_ ?_ ?_ (Nat.le_refl _) rfl rfl rfl rfl
  · exact keep _ _ _ _ (keep _ _ _ _ (new _ _ _ (by rw [z1, z1])))
  · exact (FMap.made w).keep (by rw [keep _ _ _ _ (keep _ _ _ _ (keep _ _ _ _ (keep _ _ _ _ (new w (.map #[] 0) _ rfl)))), new w (.map #[] 0) _ rfl])
  · have h := FMap.made (K := 90) (ek := ekP) (ok := okP) (w.alloc (.map #[] 0))
    rw [z1] at h
    exact h.keep (by rw [keep _ _ _ _ (keep _ _ _ _ (keep _ _ _ _ (new (w.alloc (.map #[] 0)) (.map #[] 0) _ (by rw [z1])))), new (w.alloc (.map #[] 0)) (.map #[] 0) _ (by rw [z1])])
  · exact keep _ _ _ _ (new _ _ _ (by rw [z1, z1, z1]))
  · exact new _ _ _ (by rw [z1, z1, z1, z1])
theorem tnC_nodup (kind k : Int) : (tnC kind k).Nodup := by
  unfold tnC
  split
  · simp
  · unfold List.Nodup
    rw [List.pairwise_map]
    exact List.Pairwise.imp (fun {a b} h e => by simp only [List.cons.injEq, and_true] at e; omega) (List.pairwise_lt_range (n := k.toNat))
theorem tnC_wd {kind : Int} {K : Nat} : ∀ e ∈ tnC kind (K : Int), e.length ≤ 1 ∧ ∀ x ∈ e, 0 ≤ x ∧ x < (K : Int) := fun e he => by
  unfold tnC at he
  split at he
  · rw [List.mem_singleton] at he; subst he; exact ⟨by simp, fun x hx => by simp at hx⟩
  · obtain ⟨y, hy, rfl⟩ := List.mem_map.1 he
    rw [List.mem_range, Int.toNat_natCast] at hy
    refine ⟨by simp, fun x hx => ?_⟩
    rw [List.mem_singleton] at hx; subst hx; omega
theorem tab_row {B : Nat} {w : World} {p : Tl} {kind o : Int} {K a : Nat} (hk : kind = 1 ∨ kind = 2) (h1 : 1 ≤ K) (h2 : K ≤ 64) (h : To B w p ((Ts.ini kind K o).mkR 0 a)) (A : MkA (Ts.ini kind K o) 0 a) (hB : B ≤ w.heap.size) (ho : o ≤ 64) : Tab B w p ((Ts.ini kind K o).mkR 0 a) { tnV kind K o with cols := [] } := by
  have V := Vi.ini (kind := kind) (o := o) (K := K) hk h1 h2
  have hP : 0 < (Ts.ini kind K o).ls.length := Nat.one_pos
  refine ⟨h, V.mkR hP rfl (by show 0 < 1024; omega) A, (Hd.ini kind o K).mkR V hP A, ⟨rfl, rfl, rfl, ?_, rfl, fun w => rfl, rfl, by show 0 < ([] ++ [0]).length; simp⟩, hB, ho, Nat.le_refl _⟩
  show [[]] = ([] ++ [0]).map ((Ts.ini kind K o).mkR 0 a).wd
  rw [List.nil_append, List.map_cons, List.map_nil, Ts.mkR_wl hP hP]; rfl
set_option maxRecDepth 100000 in
set_option maxHeartbeats 4000000 in
theorem new_ok1 (o : Int) (K : Nat) (w : World) (h1 : 1 ≤ K) (h2 : K ≤ 64) (ho : ¬ (((1 : Int) = 1 ∧ o ≠ 2) ∨ o < 1 ∨ 64 < o)) :
    Calls Try.prog 19 #[.int .i64 1, .int .i64 (K : Int), .int .i64 o] w (NewP 1 K o w) := by
  have hho := haveO_any 1 o w (by decide)
  rw [decide_eq_true ho] at hho
  have hmm := @run_makeMap Try.prog
  have hK1 : ¬ (K : Int) < 1 := by omega
  have hK2 : ¬ (64 : Int) < (K : Int) := by omega
  have HO64 := hide (show o ≤ 64 by omega)
  have HE := hide (show tnE 1 (K : Int) o = 0 by unfold tnE; rw [if_neg (by decide), if_neg (by omega), if_neg ho])
  clear ho
  go_enter Try.func19, Try.ntmps19
  go_wp2_with fail
  refine hho.mono ?_
  rintro e w1 ⟨rfl, hw1⟩
  subst hw1
  clear hho
  go_wp2_with fail
  have hmr := makeRow_any (to_ini5 w1 1 o K) (Vi.ini (by decide) h1 h2) (by simp; omega) (P := 0) Nat.one_pos (by show 0 < 1024; omega)
  rw [show ((0 : Nat) : Int) = 0 from rfl] at hmr
  refine hmr.mono ?_
  rintro e w2 ⟨p, at', rfl, q1, q2, q3, q4, q5⟩
  have hb4 : p.b = w1.heap.size + 1 + 1 := q4
  have HLO : Hid (Below w1.heap.size w1 w2) := hide ((bstep (bstep (bstep (bstep (ballo w1 _) (ballo _ _)) (ballo _ _)) (ballo _ _)) (ballo _ _)).trans (q2.below (fun k hk => ((to_ini5 w1 1 o K).hlt hk).1) (by simp; omega)))
  have HT0 := hide (tab_row (by decide) h1 h2 q1 q5 (unhide HLO).size (unhide HO64))
  have HNB : Hid (∀ k, p.has k → k < w2.heap.size) := hide fun k hk => (q1.hlt hk).2
  clear hmr q1 q2 q3 q4 q5
  have HBE := hide hb4
  generalize w1.heap.size + 1 + 1 = bb at *
  have hfc := firstCols_any 1 K w2 (by decide) h2
  go_wp2_with fail
  refine hfc.mono ?_
  rintro e w3 ⟨v, rfl, hv, hb3⟩
  obtain ⟨av, cv, ev⟩ := hv.shape
  subst ev
  have HT1 : Hid (Tab w1.heap.size w3 p _ { tnV 1 K o with cols := [] }) := hide (let T := unhide HT0; ⟨T.o.below hb3, T.v, T.h, T.vw, Nat.le_trans T.b hb3.size, T.ob, T.nf⟩)
  have HL1 := hide (bstep (unhide HLO) hb3)
  have HV := hide hv
  have hcl : (tnC 1 (K : Int)).length ≤ 64 := by rw [tnC_len]; simp
  have hrd := hv.rdS
  have HRD := hide hrd
  have HND := hide (tnC_nodup 1 (K : Int))
  have HWD := hide (tnC_wd (kind := 1) (K := K))
  have HTN := hide (show tnV 1 (K : Int) o = { tnV 1 (K : Int) o with cols := tnC 1 (K : Int) } from rfl)
  have hz3 := hb3.size
  clear hv hb3 HT0 HLO hrd hfc
  generalize tnC 1 (K : Int) = CL at *
  go_wp2
  go_loopw [52] (fun iv wr => ∃ (C : Nat) (q : Tl) (s : Ts), iv = .int .i64 (C : Int) ∧ C ≤ CL.length ∧ Hid (Tab w1.heap.size wr q s { tnV 1 K o with cols := CL.take C }) ∧ Hid (s.K = K) ∧ Hid (q.b = bb) ∧ Hid (OwnG 47 1 spE wr w2.heap.size (.slice av CL.length cv) CL) ∧ Hid (∀ k, obk av = some k → ¬ q.has k) ∧ Hid (Below w1.heap.size w1 wr)) (fun iv _ => CL.length - (intOf iv).toNat)
  case atStart => exact ⟨0, p, _, rfl, Nat.zero_le _, HT1, hide rfl, HBE, HV, hide (fun k hk hp => by
    have h1 := ((unhide HV).lt (b := k) (by rw [ob_sl]; exact hk)).1
    have h2 := (unhide HNB k hp); omega), HL1⟩
  case round =>
    clear HT1 HBE HV HL1
    obtain ⟨C, q, s, rfl, hC, HT, HK, HB, HV, HN, HL⟩ := hrel
    by_cases hlt : C < CL.length
    · have hlt' : (C : Int) < (CL.length : Int) := by omega
      obtain ⟨g, ea, hc⟩ : ∃ g, av = some ⟨g, 0, none⟩ ∧ ∀ i, i < CL.length → wr.cell? ⟨g, i, none⟩ = some (.string (sp (CL.getD i []))) := (unhide HV).rdS.resolve_left (by omega)
      have c0 := hc C hlt
      have T := unhide HT
      have hcl2 : s.cols = CL.take C := T.vw.cols.symm
      have hmc := makeCol_any T.o T.b (by rw [hcl2, List.length_take]; omega) (by rw [T.v.kl, hcl2, List.length_take]; omega) (CL.getD C [])
      rw [unhide HB] at hmc
      have HEA := hide ea
      subst ea
      have HV2 := hide (unhide HV)
      have HG : Hid (CL.take (C + 1) = CL.take C ++ [CL.getD C []]) := hide (by rw [List.take_succ_eq_append_getElem hlt, List.getD_eq_getElem?_getD, List.getElem?_eq_getElem hlt]; rfl)
      have HM : Hid (CL.getD C [] ∈ CL ∧ CL.getD C [] ∉ CL.take C) := hide (by
        have e : CL.getD C [] = CL[C] := by rw [List.getD_eq_getElem?_getD, List.getElem?_eq_getElem hlt]; rfl
        rw [e]
        refine ⟨List.getElem_mem hlt, fun m => ?_⟩
        obtain ⟨i, hi, e2⟩ := List.mem_take_iff_getElem.1 m
        have := List.pairwise_iff_getElem.1 (unhide HND) i C (by omega) hlt (by omega)
        exact this e2)
      have HTT := hide T
      clear T hc hcl2
      generalize CL.getD C [] = x at *
      go_wp2_with fail
      refine hmc.mono ?_
      rintro e w4 ⟨p', rfl, r1, r2, r3, r4⟩
      have T := unhide HTT
      have HT4 : Hid (Tab w1.heap.size w4 p' (s.mkC x) { tnV 1 K o with cols := CL.take (C + 1) }) := hide (by
        obtain ⟨m1, m2⟩ := unhide HM
        obtain ⟨n1, n2⟩ := unhide HWD x m1
        have hcl2 : s.cols = CL.take C := T.vw.cols.symm
        rw [unhide HG]
        exact ⟨r1, T.v.mkC (by rw [hcl2, List.length_take]; omega) (by omega) (by rw [unhide HK]; exact n2) (by rw [hcl2]; exact m2), T.h.mkC T.v, T.vw.mkC, Nat.le_trans T.b r2.size, T.ob, T.nf⟩)
      have HV4 := hide ((unhide HV).keep (w' := w4) fun b e => r2.block b ((unhide HV).lt e).2 (unhide HN b (by rw [ob_sl] at e; exact e)))
      have HN4 : Hid (∀ k, obk (some ⟨g, 0, none⟩) = some k → ¬ p'.has k) := hide fun k hk hp => (r3 k hp).elim (unhide HN k hk) fun e => by
        have := ((unhide HV).lt (b := k) (by rw [ob_sl]; exact hk)).2; omega
      have HB4 := hide (r4.trans (unhide HB))
      have HL4 := hide ((unhide HL).trans (r2.below (fun k hk => (T.o.hlt hk).1) T.b))
      clear r1 r2 r3 r4 T hmc HV HN HB HL HT HTT
      go_wp2
      go_roundw
      case rel => exact ⟨C + 1, p', s.mkC x, by go_num, hlt, HT4, hide (unhide HK), HB4, HV4, HN4, HL4⟩
      case measure => simp [intOf]; omega
    · obtain rfl : C = CL.length := by omega
      have HP : Hid (NewP 1 K o w1 (.returned (.tuple #[.pointer (some ⟨q.b, 0, none⟩), .int .i64 0])) wr) := hide (.inr ⟨unhide HE, q, s, rfl, by have := unhide HT; rw [List.take_length] at this; rw [unhide HTN]; exact this, unhide HL⟩)
      rw [unhide HB] at HP
      go_wp2
      go_ret2
      exact unhide HP
set_option maxRecDepth 100000 in
set_option maxHeartbeats 4000000 in
theorem new_ok2 (o : Int) (K : Nat) (w : World) (h1 : 1 ≤ K) (h2 : K ≤ 64) (ho : ¬ (((2 : Int) = 1 ∧ o ≠ 2) ∨ o < 1 ∨ 64 < o)) :
    Calls Try.prog 19 #[.int .i64 2, .int .i64 (K : Int), .int .i64 o] w (NewP 2 K o w) := by
  have hho := haveO_any 2 o w (by decide)
  rw [decide_eq_true ho] at hho
  have hmm := @run_makeMap Try.prog
  have hK1 : ¬ (K : Int) < 1 := by omega
  have hK2 : ¬ (64 : Int) < (K : Int) := by omega
  have HO64 := hide (show o ≤ 64 by omega)
  have HE := hide (show tnE 2 (K : Int) o = 0 by unfold tnE; rw [if_neg (by decide), if_neg (by omega), if_neg ho])
  clear ho
  go_enter Try.func19, Try.ntmps19
  go_wp2_with fail
  refine hho.mono ?_
  rintro e w1 ⟨rfl, hw1⟩
  subst hw1
  clear hho
  go_wp2_with fail
  have hmr := makeRow_any (to_ini5 w1 2 o K) (Vi.ini (by decide) h1 h2) (by simp; omega) (P := 0) Nat.one_pos (by show 0 < 1024; omega)
  rw [show ((0 : Nat) : Int) = 0 from rfl] at hmr
  refine hmr.mono ?_
  rintro e w2 ⟨p, at', rfl, q1, q2, q3, q4, q5⟩
  have hb4 : p.b = w1.heap.size + 1 + 1 := q4
  have HLO : Hid (Below w1.heap.size w1 w2) := hide ((bstep (bstep (bstep (bstep (ballo w1 _) (ballo _ _)) (ballo _ _)) (ballo _ _)) (ballo _ _)).trans (q2.below (fun k hk => ((to_ini5 w1 2 o K).hlt hk).1) (by simp; omega)))
  have HT0 := hide (tab_row (by decide) h1 h2 q1 q5 (unhide HLO).size (unhide HO64))
  have HNB : Hid (∀ k, p.has k → k < w2.heap.size) := hide fun k hk => (q1.hlt hk).2
  clear hmr q1 q2 q3 q4 q5
  have HBE := hide hb4
  generalize w1.heap.size + 1 + 1 = bb at *
  have hfc := firstCols_any 2 K w2 (by decide) h2
  go_wp2_with fail
  refine hfc.mono ?_
  rintro e w3 ⟨v, rfl, hv, hb3⟩
  obtain ⟨av, cv, ev⟩ := hv.shape
  subst ev
  have HT1 : Hid (Tab w1.heap.size w3 p _ { tnV 2 K o with cols := [] }) := hide (let T := unhide HT0; ⟨T.o.below hb3, T.v, T.h, T.vw, Nat.le_trans T.b hb3.size, T.ob, T.nf⟩)
  have HL1 := hide (bstep (unhide HLO) hb3)
  have HV := hide hv
  have hcl : (tnC 2 (K : Int)).length ≤ 64 := by rw [tnC_len]; simp; omega
  have hrd := hv.rdS
  have HRD := hide hrd
  have HND := hide (tnC_nodup 2 (K : Int))
  have HWD := hide (tnC_wd (kind := 2) (K := K))
  have HTN := hide (show tnV 2 (K : Int) o = { tnV 2 (K : Int) o with cols := tnC 2 (K : Int) } from rfl)
  have hz3 := hb3.size
  clear hv hb3 HT0 HLO hrd hfc
  generalize tnC 2 (K : Int) = CL at *
  go_wp2
  go_loopw [52] (fun iv wr => ∃ (C : Nat) (q : Tl) (s : Ts), iv = .int .i64 (C : Int) ∧ C ≤ CL.length ∧ Hid (Tab w1.heap.size wr q s { tnV 2 K o with cols := CL.take C }) ∧ Hid (s.K = K) ∧ Hid (q.b = bb) ∧ Hid (OwnG 47 1 spE wr w2.heap.size (.slice av CL.length cv) CL) ∧ Hid (∀ k, obk av = some k → ¬ q.has k) ∧ Hid (Below w1.heap.size w1 wr)) (fun iv _ => CL.length - (intOf iv).toNat)
  case atStart => exact ⟨0, p, _, rfl, Nat.zero_le _, HT1, hide rfl, HBE, HV, hide (fun k hk hp => by
    have h1 := ((unhide HV).lt (b := k) (by rw [ob_sl]; exact hk)).1
    have h2 := (unhide HNB k hp); omega), HL1⟩
  case round =>
    clear HT1 HBE HV HL1
    obtain ⟨C, q, s, rfl, hC, HT, HK, HB, HV, HN, HL⟩ := hrel
    by_cases hlt : C < CL.length
    · have hlt' : (C : Int) < (CL.length : Int) := by omega
      obtain ⟨g, ea, hc⟩ : ∃ g, av = some ⟨g, 0, none⟩ ∧ ∀ i, i < CL.length → wr.cell? ⟨g, i, none⟩ = some (.string (sp (CL.getD i []))) := (unhide HV).rdS.resolve_left (by omega)
      have c0 := hc C hlt
      have T := unhide HT
      have hcl2 : s.cols = CL.take C := T.vw.cols.symm
      have hmc := makeCol_any T.o T.b (by rw [hcl2, List.length_take]; omega) (by rw [T.v.kl, hcl2, List.length_take]; omega) (CL.getD C [])
      rw [unhide HB] at hmc
      have HEA := hide ea
      subst ea
      have HV2 := hide (unhide HV)
      have HG : Hid (CL.take (C + 1) = CL.take C ++ [CL.getD C []]) := hide (by rw [List.take_succ_eq_append_getElem hlt, List.getD_eq_getElem?_getD, List.getElem?_eq_getElem hlt]; rfl)
      have HM : Hid (CL.getD C [] ∈ CL ∧ CL.getD C [] ∉ CL.take C) := hide (by
        have e : CL.getD C [] = CL[C] := by rw [List.getD_eq_getElem?_getD, List.getElem?_eq_getElem hlt]; rfl
        rw [e]
        refine ⟨List.getElem_mem hlt, fun m => ?_⟩
        obtain ⟨i, hi, e2⟩ := List.mem_take_iff_getElem.1 m
        have := List.pairwise_iff_getElem.1 (unhide HND) i C (by omega) hlt (by omega)
        exact this e2)
      have HTT := hide T
      clear T hc hcl2
      generalize CL.getD C [] = x at *
      go_wp2_with fail
      refine hmc.mono ?_
      rintro e w4 ⟨p', rfl, r1, r2, r3, r4⟩
      have T := unhide HTT
      have HT4 : Hid (Tab w1.heap.size w4 p' (s.mkC x) { tnV 2 K o with cols := CL.take (C + 1) }) := hide (by
        obtain ⟨m1, m2⟩ := unhide HM
        obtain ⟨n1, n2⟩ := unhide HWD x m1
        have hcl2 : s.cols = CL.take C := T.vw.cols.symm
        rw [unhide HG]
        exact ⟨r1, T.v.mkC (by rw [hcl2, List.length_take]; omega) (by omega) (by rw [unhide HK]; exact n2) (by rw [hcl2]; exact m2), T.h.mkC T.v, T.vw.mkC, Nat.le_trans T.b r2.size, T.ob, T.nf⟩)
      have HV4 := hide ((unhide HV).keep (w' := w4) fun b e => r2.block b ((unhide HV).lt e).2 (unhide HN b (by rw [ob_sl] at e; exact e)))
      have HN4 : Hid (∀ k, obk (some ⟨g, 0, none⟩) = some k → ¬ p'.has k) := hide fun k hk hp => (r3 k hp).elim (unhide HN k hk) fun e => by
        have := ((unhide HV).lt (b := k) (by rw [ob_sl]; exact hk)).2; omega
      have HB4 := hide (r4.trans (unhide HB))
      have HL4 := hide ((unhide HL).trans (r2.below (fun k hk => (T.o.hlt hk).1) T.b))
      clear r1 r2 r3 r4 T hmc HV HN HB HL HT HTT
      go_wp2
      go_roundw
      case rel => exact ⟨C + 1, p', s.mkC x, by go_num, hlt, HT4, hide (unhide HK), HB4, HV4, HN4, HL4⟩
      case measure => simp [intOf]; omega
    · obtain rfl : C = CL.length := by omega
      have HP : Hid (NewP 2 K o w1 (.returned (.tuple #[.pointer (some ⟨q.b, 0, none⟩), .int .i64 0])) wr) := hide (.inr ⟨unhide HE, q, s, rfl, by have := unhide HT; rw [List.take_length] at this; rw [unhide HTN]; exact this, unhide HL⟩)
      rw [unhide HB] at HP
      go_wp2
      go_ret2
      exact unhide HP

end Go.Proofs.Ytepmdnggiajkbaa

/-
  The program's table: AddRow, AddCol, Put; nil objects.
-/
namespace Go.Proofs.Ytepmdnggiajkbaa
set_option linter.unusedVariables false
open Go.RowKit

theorem wd_ok {K : Nat} {l : List Int} (h : wdE l (K : Int) = 0) : l.length ≤ 4096 ∧ ∀ x ∈ l, 0 ≤ x ∧ x < (K : Int) := by
  obtain ⟨_, _, h3, h4⟩ := word_of_chk (show (chkV l.length (fun i => l.getD i 0) (K : Int)).2 = 0 from h)
  refine ⟨h3, fun x hx => ?_⟩
  obtain ⟨p, hp, rfl⟩ := mem_gd hx
  exact h4 p hp
section
variable {B : Nat} {w w' : World} {p : Tl} {s : Ts} {t : Tb}
theorem take_last {l : List Int} (h : l ≠ []) : ∃ x, x ∈ l ∧ l = l.take (l.length - 1) ++ [x] := by
  refine ⟨l.getLast h, List.getLast_mem h, ?_⟩
  rw [← List.dropLast_eq_take]
  exact (List.dropLast_concat_getLast h).symm
/-- Where a word leads along the rows, by rows. -/
theorem fnd_edge (V : Vi s) (W : Vw s t) {l : List Int} (hw : ∀ x ∈ l, 0 ≤ x ∧ x < (s.K : Int)) : (fndT s 0 l = none → l.length = 0 ∨ l.take (l.length - 1) ∉ t.rows) ∧
    ∀ q, fndT s 0 l = some q → q < s.ls.length ∧ s.wd q = l ∧ (l.length ≠ 0 → l.take (l.length - 1) ∈ t.rows) ∧ (0 < (s.ln q).ed ↔ l ∈ t.rows) ∧ (l.length = 0 → q = 0) := by
  constructor
  · intro h
    by_cases h0 : l.length = 0
    · exact .inl h0
    · right
      intro hm
      obtain ⟨x, hx, e⟩ := take_last (l := l) (fun q => h0 (by rw [q]; rfl))
      obtain ⟨i, hi, e1, e2⟩ := W.row_line V hm
      have hx2 := hw x hx
      have hxk : x.toNat < s.K := by omega
      have h3 := V.ed i x.toNat hi hxk
      rw [e1, Int.toNat_of_nonneg hx2.1, ← e] at h3
      have h4 := fnd_line V _ (V.edge hi hxk) []
      rw [h3, List.append_nil, h] at h4
      cases h4
  · intro q h
    obtain ⟨h1, h2⟩ := fnd_yes V l 0 q (by rw [V.len]; omega) hw h
    rw [V.r0, List.nil_append] at h2
    refine ⟨h1, h2, fun h0 => ?_, ⟨fun hp => ?_, fun hm => ?_⟩, fun h0 => ?_⟩
    · rcases Nat.eq_zero_or_pos q with c | c
      · subst c; rw [V.r0] at h2; rw [← h2] at h0; exact absurd rfl h0
      · have hq : q - 1 < s.K * s.rows.length := by rw [V.len] at h1; omega
        have hi : (q - 1) / s.K < s.rows.length := Nat.div_lt_of_lt_mul hq
        have hx : (q - 1) % s.K < s.K := Nat.mod_lt _ V.k1
        have ep : q = 1 + s.K * ((q - 1) / s.K) + (q - 1) % s.K := by have := Nat.div_add_mod (q - 1) s.K; omega
        have e1 := V.ed _ _ hi hx
        rw [← ep, h2] at e1
        have e3 : l.take (l.length - 1) = s.wd (s.rw ((q - 1) / s.K)) := by
          rw [e1]; simp
        rw [e3, ← W.rw hi, Tb.rw_at (by rw [W.rl]; exact hi)]
        exact List.getElem_mem _
    · obtain ⟨i, hi, e, _⟩ := V.ed_row hp
      rw [← h2, ← e, ← W.rw hi, Tb.rw_at (by rw [W.rl]; exact hi)]
      exact List.getElem_mem _
    · obtain ⟨i, hi, e, _⟩ := W.row_line V hm
      have : s.rw i = q := V.nd _ _ (V.rwlt hi) h1 (by rw [e, h2])
      rw [← this, (V.rg i hi).2]; omega
    · have : l = [] := List.length_eq_zero_iff.1 h0
      subst this
      have : fndT s 0 [] = some 0 := rfl
      rw [this] at h; cases h; rfl
/-- What AddRow, AddCol, Put leave. -/
def ChP (B : Nat) (p : Tl) (r : Tb × Int) (w : World) (e : Ending) (w' : World) : Prop :=
  ∃ p' s', e = .returned (.int .i64 r.2) ∧ Tab B w' p' s' r.1 ∧ Bx p.has w w' ∧ Gw p p' w.heap.size ∧ p'.b = p.b
theorem Tab.below (T : Tab B w p s t) (hb : Below w.heap.size w w') : Tab B w' p s t := ⟨T.o.below hb, T.v, T.h, T.vw, Nat.le_trans T.b hb.size, T.ob, T.nf⟩
theorem Tab.stay (T : Tab B w p s t) (x : Int) (hb : Below w.heap.size w w') : ChP B p (t, x) w (.returned (.int .i64 x)) w' := ⟨p, s, rfl, T.below hb, Bx.of hb, Gw.refl _ _, rfl⟩
set_option maxRecDepth 100000 in
set_option maxHeartbeats 4000000 in
theorem addRow_any (T : Tab B w p s t) (a : Option Addr) (c : Nat) (l : List Int) (hr : RdL .i64 w a l) (hl : l.length ≤ maxLen) :
    Calls Try.prog 10 #[.pointer (some ⟨p.b, 0, none⟩), .slice a l.length c] w (ChP B p (adR t l) w) := by
  have hck := check_any a l.length c (fun i => l.getD i 0) (s.K : Int) w hr.rd hl
  have c1 := T.o.c1
  have HR := hide (show adR t l = adR t l from rfl)
  by_cases he : wdE l (s.K : Int) = 0
  · have he' : (chkV l.length (fun i => l.getD i 0) (s.K : Int)).2 = 0 := he
    obtain ⟨hl4, hw⟩ := wd_ok he
    obtain ⟨f1, f2⟩ := fnd_edge T.v T.vw hw
    have hfd := find_any T.o T.v a c l hr hw (by omega)
    have HE : Hid (wdE l t.k = 0) := hide (by rw [T.vw.k]; exact he)
    have HT := hide T
    rw [he'] at hck
    generalize (chkV l.length (fun i => l.getD i 0) (s.K : Int)).1 = z at *
    cases hf : fndT s 0 l with
    | none =>
      rw [hf] at hfd
      have HP : Hid (∀ w', Below w.heap.size w w' → ChP B p (adR t l) w (.returned (.int .i64 1)) w') := hide fun w' hb => by
        have : adR t l = (t, 1) := by unfold adR; rw [if_neg (by rw [unhide HE]; simp), if_pos (f1 hf)]
        rw [this]; exact (unhide HT).stay 1 hb
      simp only [Option.getD_none, Option.isSome_none] at hfd
      clear f1 f2 hf he he' hw T
      go_enter Try.func10, Try.ntmps10
      go_wp2_with fail
      refine hck.mono ?_
      rintro e w1 ⟨rfl, hw1⟩
      subst hw1
      go_wp2_with fail
      refine hfd.mono ?_
      rintro e w2 ⟨rfl, hb2⟩
      go_wp2
      go_ret
      exact unhide HP _ hb2
    | some q =>
      rw [hf] at hfd
      obtain ⟨g1, g2, g3, g4, g5⟩ := f2 q hf
      simp only [Option.getD_some, Option.isSome_some] at hfd
      clear f1 f2 hf he he'
      have hlen := T.o.lnc
      have hq' : (q : Int) < (s.ls.length : Int) := by omega
      have HT2 := hide fun (w2 : World) (hb : Below w.heap.size w w2) => T.below hb
      by_cases h0 : l.length = 0
      · have HP : Hid (∀ w', Below w.heap.size w w' → ChP B p (adR t l) w (.returned (.int .i64 1)) w') := hide fun w' hb => by
          have : adR t l = (t, 1) := by unfold adR; rw [if_neg (by rw [unhide HE]; simp), if_pos (.inl h0)]
          rw [this]; exact (unhide HT).stay 1 hb
        have h0' : ((l.length : Int) == 0) = true := by simp [h0]
        have HH := hide h0
        clear h0 T g5 hw
        go_enter Try.func10, Try.ntmps10
        go_wp2_with fail
        refine hck.mono ?_
        rintro e w1 ⟨rfl, hw1⟩
        subst hw1
        go_wp2_with fail
        refine hfd.mono ?_
        rintro e w2 ⟨rfl, hb2⟩
        go_wp2
        go_ret
        exact unhide HP _ hb2
      · have h0' : ((l.length : Int) == 0) = false := by rw [beq_eq_false_iff_ne]; omega
        have hlm : l.length ≠ 0 := h0
        have g3' := g3 h0
        by_cases hd : 0 < (s.ln q).ed
        · have HP : Hid (∀ w', Below w.heap.size w w' → ChP B p (adR t l) w (.returned (.int .i64 0)) w') := hide fun w' hb => by
            have : adR t l = (t, 0) := by unfold adR; rw [if_neg (by rw [unhide HE]; simp), if_neg (fun q => q.elim h0 (fun n => n g3')), if_pos (g4.1 hd)]
            rw [this]; exact (unhide HT).stay 0 hb
          have HIR := hide fun (w2 : World) => isRow_any (s.ln q) w2
          clear g3 g3' g4 g5 T hw
          go_enter Try.func10, Try.ntmps10
          go_wp2_with fail
          refine hck.mono ?_
          rintro e w1 ⟨rfl, hw1⟩
          subst hw1
          go_wp2_with fail
          refine hfd.mono ?_
          rintro e w2 ⟨rfl, hb2⟩
          have T2 := unhide HT2 w2 hb2
          have c4 := T2.o.c4
          obtain ⟨l0, l1, l2, l3, -⟩ := T2.o.lc g1
          have hir := unhide HIR w2
          unfold lnV at hir
          rw [decide_eq_true hd] at hir
          clear T2 hd
          go_wp2_with fail
          refine hir.mono ?_
          rintro e w3 ⟨rfl, hb3⟩
          go_wp2
          go_ret
          exact unhide HP _ (bstep hb2 hb3)
        · have HIR := hide fun (w2 : World) => isRow_any (s.ln q) w2
          have hnr : l ∉ t.rows := fun m => hd (g4.2 m)
          by_cases hm : s.rows.length = 1024
          · have HP : Hid (∀ w', Below w.heap.size w w' → ChP B p (adR t l) w (.returned (.int .i64 3)) w') := hide fun w' hb => by
              have : adR t l = (t, 3) := by unfold adR; rw [if_neg (by rw [unhide HE]; simp), if_neg (fun q => q.elim h0 (fun n => n g3')), if_neg hnr, if_pos (by rw [T.vw.rl]; exact hm)]
              rw [this]; exact (unhide HT).stay 3 hb
            have hm' : ((s.rows.length : Int) == 1024) = true := by simp [hm]
            clear g3 g3' g4 g5 T hw hnr hm
            go_enter Try.func10, Try.ntmps10
            go_wp2_with fail
            refine hck.mono ?_
            rintro e w1 ⟨rfl, hw1⟩
            subst hw1
            go_wp2_with fail
            refine hfd.mono ?_
            rintro e w2 ⟨rfl, hb2⟩
            have T2 := unhide HT2 w2 hb2
            have c4 := T2.o.c4
            obtain ⟨l0, l1, l2, l3, -⟩ := T2.o.lc g1
            have hir := unhide HIR w2
            unfold lnV at hir
            rw [decide_eq_false hd] at hir
            clear T2 hd
            go_wp2_with fail
            refine hir.mono ?_
            rintro e w3 ⟨rfl, hb3⟩
            have c5 := (unhide HT2 w3 (bstep hb2 hb3)).o.c5
            go_wp2
            go_ret
            exact unhide HP _ (bstep hb2 hb3)
          · have hlt : s.rows.length < 1024 := by have := T.v.rl; omega
            have hed0 : (s.ln q).ed = 0 := by omega
            have HP : Hid (∀ w3, Below w.heap.size w w3 → ∀ e w', MkP B p s q w3 e w' → ∃ p' a, e = .returned (.tuple #[]) ∧ ChP B p (adR t l) w (.returned (.int .i64 0)) w' ∧ To B w' p' (s.mkR q a)) := hide fun w3 hb e w' hq => by
              obtain ⟨p', a, rfl, r1, r2, r3, r4, r5⟩ := hq
              refine ⟨p', a, rfl, ?_, r1⟩
              have : adR t l = ({ t with rows := t.rows ++ [l] }, 0) := by unfold adR; rw [if_neg (by rw [unhide HE]; simp), if_neg (fun q => q.elim h0 (fun n => n g3')), if_neg hnr, if_neg (by rw [T.vw.rl]; exact hm)]
              rw [this]
              have W2 := T.vw.mkR (a := a) T.v g1
              rw [g2] at W2
              exact ⟨p', _, rfl, ⟨r1, T.v.mkR g1 hed0 hlt r5, T.h.mkR T.v g1 r5, W2, Nat.le_trans T.b (Nat.le_trans hb.size r2.size), T.ob, T.nf⟩, Bx.trans (Bx.of hb) r2 (fun _ _ h => h), r3.mono hb.size, r4⟩
            have HMK := hide fun (w3 : World) (hb : Below w.heap.size w w3) => makeRow_any (T.o.below hb) T.v (Nat.le_trans T.b hb.size) g1 hlt
            have hm' : ((s.rows.length : Int) == 1024) = false := by simp; omega
            clear g3 g3' g4 g5 T hw hnr hm
            go_enter Try.func10, Try.ntmps10
            go_wp2_with fail
            refine hck.mono ?_
            rintro e w1 ⟨rfl, hw1⟩
            subst hw1
            go_wp2_with fail
            refine hfd.mono ?_
            rintro e w2 ⟨rfl, hb2⟩
            have T2 := unhide HT2 w2 hb2
            have c4 := T2.o.c4
            obtain ⟨l0, l1, l2, l3, -⟩ := T2.o.lc g1
            have hir := unhide HIR w2
            unfold lnV at hir
            rw [decide_eq_false hd] at hir
            clear T2 hd hed0
            go_wp2_with fail
            refine hir.mono ?_
            rintro e w3 ⟨rfl, hb3⟩
            have hb4 := bstep hb2 hb3
            have c5 := (unhide HT2 w3 hb4).o.c5
            have hb5 := ballo w3 (.cells #[.pointer (some ⟨p.b, 0, none⟩)] 23)
            go_wp2_with fail
            refine (unhide HMK _ (by first | exact hb4 | exact bstep hb4 hb5)).mono ?_
            rintro e w5 hq
            obtain ⟨p', a, rfl, r1, -⟩ := unhide HP _ (by first | exact hb4 | exact bstep hb4 hb5) _ _ hq
            go_wp2
            go_ret
            exact r1
  · have HP : Hid (ChP B p (adR t l) w (.returned (.int .i64 (chkV l.length (fun i => l.getD i 0) (s.K : Int)).2)) w) := hide (by
      have : adR t l = (t, wdE l (s.K : Int)) := by unfold adR; rw [T.vw.k, if_pos he]
      rw [this]; exact T.stay _ (Below.refl _ _))
    have he' : (chkV l.length (fun i => l.getD i 0) (s.K : Int)).2 ≠ 0 := he
    generalize (chkV l.length (fun i => l.getD i 0) (s.K : Int)).2 = z2 at *
    generalize (chkV l.length (fun i => l.getD i 0) (s.K : Int)).1 = z1 at *
    clear T he
    go_enter Try.func10, Try.ntmps10
    go_wp2_with fail
    refine hck.mono ?_
    rintro e w1 ⟨rfl, hw1⟩
    subst hw1
    go_wp2
    go_ret
    exact unhide HP
set_option maxRecDepth 100000 in
set_option maxHeartbeats 4000000 in
theorem addCol_any (T : Tab B w p s t) (a : Option Addr) (c : Nat) (l : List Int) (hr : RdL .i64 w a l) (hl : l.length ≤ maxLen) :
    Calls Try.prog 11 #[.pointer (some ⟨p.b, 0, none⟩), .slice a l.length c] w (ChP B p (adC t l) w) := by
  have hck := check_any a l.length c (fun i => l.getD i 0) (s.K : Int) w hr.rd hl
  have c1 := T.o.c1
  by_cases he : wdE l (s.K : Int) = 0
  · have he' : (chkV l.length (fun i => l.getD i 0) (s.K : Int)).2 = 0 := he
    obtain ⟨hl4, hw⟩ := wd_ok he
    have hsb : Sb l := fun x hx => by have := hw x hx; have := T.v.k2; omega
    have hsp := spell_any a c l w hr hsb (by omega)
    have HE : Hid (wdE l t.k = 0) := hide (by rw [T.vw.k]; exact he)
    have HT := hide T
    have HT2 := hide fun (w2 : World) (hb : Below w.heap.size w w2) => T.below hb
    rw [he'] at hck
    generalize (chkV l.length (fun i => l.getD i 0) (s.K : Int)).1 = z at *
    have hkd := T.v.kd
    by_cases h0 : l.length = 0 ∧ s.kind = 2
    · have HP : Hid (∀ w', Below w.heap.size w w' → ChP B p (adC t l) w (.returned (.int .i64 1)) w') := hide fun w' hb => by
        have : adC t l = (t, 1) := by unfold adC; rw [if_neg (by rw [unhide HE]; simp), if_pos (by rw [T.vw.kd]; exact h0)]
        rw [this]; exact (unhide HT).stay 1 hb
      have h0' : ((l.length : Int) == 0) = true := by simp [h0.1]
      have hk' : (s.kind == 2) = true := by simp [h0.2]
      clear h0 he he' hw T hkd
      go_enter Try.func11, Try.ntmps11
      go_wp2_with fail
      refine hck.mono ?_
      rintro e w1 ⟨rfl, hw1⟩
      subst hw1
      go_wp2_with fail
      refine hsp.mono ?_
      rintro e w2 ⟨rfl, hb2⟩
      have c0 := (unhide HT2 w2 hb2).o.c0
      go_wp2
      go_ret
      exact unhide HP _ hb2
    · have hgd : ((s.kind == 2) && ((l.length : Int) == 0)) = false := by
        by_cases q : s.kind = 2
        · have : ((l.length : Int) == 0) = false := by rw [beq_eq_false_iff_ne]; intro z; exact h0 ⟨by omega, q⟩
          rw [this]; simp
        · rw [beq_eq_false_iff_ne.2 q]; rfl
      have h0t : ¬ (l.length = 0 ∧ t.kind = 2) := by rw [T.vw.kd]; exact h0
      have HH := hide fun (w2 : World) (hb : Below w.heap.size w w2) => has_any p.ac p.cc s.cols l w2 (T.o.below hb).cs.rdS (fun x hx => T.v.cb hx) hsb (by have := T.v.cl; omega)
      have hkb : (s.kind == 2) = true ∨ (s.kind == 2) = false := by cases (s.kind == 2) <;> simp
      by_cases hm : l ∈ s.cols
      · have HP : Hid (∀ w', Below w.heap.size w w' → ChP B p (adC t l) w (.returned (.int .i64 0)) w') := hide fun w' hb => by
          have : adC t l = (t, 0) := by unfold adC; rw [if_neg (by rw [unhide HE]; simp), if_neg h0t, if_pos (by rw [T.vw.cols]; exact hm)]
          rw [this]; exact (unhide HT).stay 0 hb
        rw [decide_eq_true hm] at HH
        clear h0 he he' hw T hkd h0t hm
        rcases hkb with hkb | hkb
        all_goals (
          rw [hkb] at hgd
          simp only [Bool.true_and, Bool.false_and] at hgd
          go_enter Try.func11, Try.ntmps11
          go_wp2_with fail
          refine hck.mono ?_
          rintro e w1 ⟨rfl, hw1⟩
          subst hw1
          go_wp2_with fail
          refine hsp.mono ?_
          rintro e w2 ⟨rfl, hb2⟩
          have c0 := (unhide HT2 w2 hb2).o.c0
          have c7 := (unhide HT2 w2 hb2).o.c7
          go_wp2_with fail
          refine (unhide HH w2 hb2).mono ?_
          rintro e w3 ⟨rfl, hw3⟩
          subst hw3
          go_wp2
          go_ret
          exact unhide HP _ hb2)
      · rw [decide_eq_false hm] at HH
        by_cases hf : s.cols.length = 1024
        · have HP : Hid (∀ w', Below w.heap.size w w' → ChP B p (adC t l) w (.returned (.int .i64 3)) w') := hide fun w' hb => by
            have : adC t l = (t, 3) := by unfold adC; rw [if_neg (by rw [unhide HE]; simp), if_neg h0t, if_neg (by rw [T.vw.cols]; exact hm), if_pos (by rw [T.vw.cols]; exact hf)]
            rw [this]; exact (unhide HT).stay 3 hb
          have hf' : ((s.cols.length : Int) == 1024) = true := by simp [hf]
          clear h0 he he' hw T hkd h0t hm hf
          rcases hkb with hkb | hkb
          all_goals (
            rw [hkb] at hgd
            simp only [Bool.true_and, Bool.false_and] at hgd
            go_enter Try.func11, Try.ntmps11
            go_wp2_with fail
            refine hck.mono ?_
            rintro e w1 ⟨rfl, hw1⟩
            subst hw1
            go_wp2_with fail
            refine hsp.mono ?_
            rintro e w2 ⟨rfl, hb2⟩
            have c0 := (unhide HT2 w2 hb2).o.c0
            have c7 := (unhide HT2 w2 hb2).o.c7
            go_wp2_with fail
            refine (unhide HH w2 hb2).mono ?_
            rintro e w3 ⟨rfl, hw3⟩
            subst hw3
            go_wp2
            go_ret
            exact unhide HP _ hb2)
        · have hlt : s.cols.length < 1024 := by have := T.v.cl; omega
          have HP : Hid (∀ w3, Below w.heap.size w w3 → ∀ e w', McP B p s l w3 e w' → e = .returned (.tuple #[]) ∧ ChP B p (adC t l) w (.returned (.int .i64 0)) w') := hide fun w3 hb e w' hq => by
            obtain ⟨p', rfl, r1, r2, r3, r4⟩ := hq
            refine ⟨rfl, ?_⟩
            have : adC t l = ({ t with cols := t.cols ++ [l] }, 0) := by unfold adC; rw [if_neg (by rw [unhide HE]; simp), if_neg h0t, if_neg (by rw [T.vw.cols]; exact hm), if_neg (by rw [T.vw.cols]; exact hf)]
            rw [this]
            exact ⟨p', _, rfl, ⟨r1, T.v.mkC hlt hl4 hw hm, T.h.mkC T.v, T.vw.mkC, Nat.le_trans T.b (Nat.le_trans hb.size r2.size), T.ob, T.nf⟩, Bx.trans (Bx.of hb) r2 (fun _ _ h => h), r3.mono hb.size, r4⟩
          have HMC := hide fun (w3 : World) (hb : Below w.heap.size w w3) => makeCol_any (T.o.below hb) (Nat.le_trans T.b hb.size) (by omega) (by rw [T.v.kl]; omega) l
          have hf' : ((s.cols.length : Int) == 1024) = false := by rw [beq_eq_false_iff_ne]; omega
          clear h0 he he' hw T hkd h0t hm hf
          rcases hkb with hkb | hkb
          all_goals (
            rw [hkb] at hgd
            simp only [Bool.true_and, Bool.false_and] at hgd
            go_enter Try.func11, Try.ntmps11
            go_wp2_with fail
            refine hck.mono ?_
            rintro e w1 ⟨rfl, hw1⟩
            subst hw1
            go_wp2_with fail
            refine hsp.mono ?_
            rintro e w2 ⟨rfl, hb2⟩
            have c0 := (unhide HT2 w2 hb2).o.c0
            have c7 := (unhide HT2 w2 hb2).o.c7
            go_wp2_with fail
            refine (unhide HH w2 hb2).mono ?_
            rintro e w3 ⟨rfl, hw3⟩
            subst hw3
            go_wp2_with fail
            refine (unhide HMC _ hb2).mono ?_
            rintro e w5 hq
            obtain ⟨rfl, r1⟩ := unhide HP _ hb2 _ _ hq
            go_wp2
            go_ret
            exact r1)
  · have HP : Hid (ChP B p (adC t l) w (.returned (.int .i64 (chkV l.length (fun i => l.getD i 0) (s.K : Int)).2)) w) := hide (by
      have : adC t l = (t, wdE l (s.K : Int)) := by unfold adC; rw [T.vw.k, if_pos he]
      rw [this]; exact T.stay _ (Below.refl _ _))
    have he' : (chkV l.length (fun i => l.getD i 0) (s.K : Int)).2 ≠ 0 := he
    generalize (chkV l.length (fun i => l.getD i 0) (s.K : Int)).2 = z2 at *
    generalize (chkV l.length (fun i => l.getD i 0) (s.K : Int)).1 = z1 at *
    clear T he
    go_enter Try.func11, Try.ntmps11
    go_wp2_with fail
    refine hck.mono ?_
    rintro e w1 ⟨rfl, hw1⟩
    subst hw1
    go_wp2
    go_ret
    exact unhide HP
end

end Go.Proofs.Ytepmdnggiajkbaa

/-
  The program's table: Put.
-/
namespace Go.Proofs.Ytepmdnggiajkbaa
set_option linter.unusedVariables false
open Go.RowKit

section
variable {B : Nat} {w w' : World} {p : Tl} {s : Ts} {t : Tb}
theorem To.toMf (h : To B w p s) (f : List Int → Option (List Int)) (n : Nat) (h1 : FMap 47 (fun l : List Int => .string (sp l)) okS w' p.mf n (celF f)) (hk : ∀ i b, i ≠ 1 → p.bk i = some b → w'.heap[b]? = w.heap[b]?) : To B w' p { s with f := f, nf := n } :=
  ⟨(hk 0 _ (by decide) rfl).trans h.o, h1, h.mc.keep (hk 2 _ (by decide) rfl), h.ls.keep fun b e => hk 3 b (by decide) e, h.od.keep fun b e => hk 4 b (by decide) e, h.rw.keep fun b e => hk 5 b (by decide) (by rw [ob_sl] at e; exact e), h.cs.keep fun b e => hk 6 b (by decide) (by rw [ob_sl] at e; exact e), h.kn.keep fun b e => hk 7 b (by decide) (by rw [ob_sl] at e; exact e), h.dis, h.base⟩
/-- What fits. -/
theorem fit_ok (V : Vi s) (ho : s.o ≤ 64) {wd out : List Int} (hw : wd.length ≤ 4096) (h : fitS s wd out = 0) : Sb out ∧ out.length ≤ 4096 ∧ (s.kind = 2 → out.length = wd.length) ∧ (s.kind = 1 → out.length = 1) := by
  unfold fitS chkA at h
  rw [if_neg (by simp), if_neg (by simp)] at h
  simp only [inB] at h
  split at h
  · rename_i c
    obtain ⟨-, -, c | c⟩ := c
    · obtain ⟨c1, c2, c3⟩ := c
      refine ⟨fun x hx => ?_, by omega, fun e => by omega, fun _ => c2⟩
      have := List.all_eq_true.1 c3 x hx
      simp at this; omega
    · obtain ⟨c1, c2, c3⟩ := c
      refine ⟨fun x hx => ?_, by omega, fun _ => c2, fun e => by omega⟩
      have := List.all_eq_true.1 c3 x hx
      simp at this; omega
  · cases h
theorem celF_put (f : List Int → Option (List Int)) (wd out : List Int) (g : List Int → Option (List Int)) (hg : ∀ y, g y = open Classical in if y = wd then some out else f y) : (fun y => if y = wd then some (Value.agg #[.string (sp out)]) else celF f y) = celF g := by
  funext y
  unfold celF
  rw [hg]
  by_cases c : y = wd
  · subst c; rw [if_pos rfl, if_pos rfl]; rfl
  · rw [if_neg c, if_neg c]
set_option maxRecDepth 100000 in
set_option maxHeartbeats 8000000 in
theorem put_any (T : Tab B w p s t) (hws : t.ws.length ≤ 100000000) (a : Option Addr) (c : Nat) (l : List Int) (hr : RdL .i64 w a l) (hl : l.length ≤ maxLen) (a2 : Option Addr) (c2 : Nat) (out : List Int) (hr2 : RdL .i64 w a2 out) (hl2 : out.length ≤ maxLen) :
    Calls Try.prog 12 #[.pointer (some ⟨p.b, 0, none⟩), .slice a l.length c, .slice a2 out.length c2] w (ChP B p (ptT t l out) w) := by
  have hck := check_any a l.length c (fun i => l.getD i 0) (s.K : Int) w hr.rd hl
  have c1 := T.o.c1
  by_cases he : wdE l (s.K : Int) = 0
  · have he' : (chkV l.length (fun i => l.getD i 0) (s.K : Int)).2 = 0 := he
    obtain ⟨hl4, hw⟩ := wd_ok he
    have hsb : Sb l := fun x hx => by have := hw x hx; have := T.v.k2; omega
    have HE : Hid (wdE l t.k = 0) := hide (by rw [T.vw.k]; exact he)
    have HT := hide T
    have HT2 := hide fun (w2 : World) (hb : Below w.heap.size w w2) => T.below hb
    have hpa : ptA t l out = fitS s l out := by unfold ptA fitS; rw [T.vw.kd, T.vw.k, T.vw.o]
    have hft := tfits_any a c l a2 c2 out T.o hr2 hl2
    rw [he'] at hck
    generalize (chkV l.length (fun i => l.getD i 0) (s.K : Int)).1 = z at *
    by_cases hf : fitS s l out = 0
    · obtain ⟨o1, o2, o3, o4⟩ := fit_ok T.v T.ob hl4 hf
      rw [hf] at hft
      have HSP1 := hide fun (w2 : World) (hb : Below w.heap.size w w2) => spell_any a c l w2 (hr.below hb) hsb (by omega)
      have HSP2 := hide fun (w2 : World) (hb : Below w.heap.size w w2) => spell_any a2 c2 out w2 (hr2.below hb) o1 (by omega)
      have HPT : Hid (ptT t l out = match plcO t.ws l with | some i => if t.os.getD i [] = out then (t, 0) else (t, 111) | none => ({ t with ws := t.ws ++ [l], os := t.os ++ [out] }, 0)) := hide (by
        unfold ptT; rw [if_neg (by rw [unhide HE]; simp), if_neg (by rw [hpa, hf]; simp)]; cases plcO t.ws l <;> rfl)
      have hfl := T.vw.f l
      have hok : okS l := ⟨hsb, by omega⟩
      have HOK := hide hok
      have HLK := hide fun (w2 : World) (hb : Below w.heap.size w w2) => FMap.look keysS (T.below hb).o.mf (t := 55) Try.underlying55 (Try.zeroValue73 w2) hok
      have HFW := hide (show l.length ≤ 4096 ∧ (∀ x ∈ l, 0 ≤ x ∧ x < (s.K : Int)) ∧ Sb out ∧ out.length ≤ 4096 ∧ (s.kind = 2 → out.length = l.length) ∧ (s.kind = 1 → out.length = 1) from ⟨hl4, hw, o1, o2, o3, o4⟩)
      have HNF := hide (show s.nf < maxLen by have := T.nf; unfold maxLen; omega)
      have HUP : Hid (∀ w2 : World, Below w.heap.size w w2 → (s.f l = none ∨ s.f l = some out) → ∃ w3, (Instr.mapUpdate 55 (.map (some p.mf)) (.string (sp l)) (.agg #[.string (sp out)])).run Try.prog w2 = .ok () w3 ∧ ChP B p (ptT t l out) w (.returned (.int .i64 0)) w3) := hide fun w2 hb hcase => by
        have T2 := T.below hb
        obtain ⟨w3, q1, q2, q3⟩ := FMap.put keysS T2.o.mf (t := 55) Try.underlying55 (unhide HNF) hok (.agg #[.string (sp out)])
        refine ⟨w3, q1, ?_⟩
        have hkeep : ∀ i b, i ≠ 1 → p.bk i = some b → w3.heap[b]? = w2.heap[b]? := fun i b hi e => by
          have hne : b ≠ p.mf := fun e2 => hi (T.o.dis i 1 b e (by rw [e2]; rfl))
          exact (q3.grown).block b (T2.o.lt e).2 (by simpa using hne)
        have hbx : Bx p.has w w3 := Bx.turned (Bx.of hb) q3 ⟨1, rfl⟩
        have hsz : B ≤ w3.heap.size := Nat.le_trans T.b hbx.size
        rcases hcase with hn | hs
        · have hpl : plcO t.ws l = none := by
            rw [hn] at hfl
            cases q : plcO t.ws l with
            | none => rfl
            | some i => rw [q] at hfl; cases hfl
          have hnm : l ∉ t.ws := fun m => by
            unfold plcO at hpl; rw [if_pos m] at hpl; cases hpl
          rw [unhide HPT, hpl]
          have e1 : celF s.f l = none := by unfold celF; rw [hn]; rfl
          rw [e1] at q2
          rw [celF_put s.f l out (s.ptS l out (s.nf + 1)).f (fun y => Ts.ptS_f y)] at q2
          refine ⟨p, s.ptS l out (s.nf + 1), rfl, ⟨T2.o.toMf _ (s.nf + 1) q2 hkeep, T.v.ptS (unhide HFW), T.h.ptS (.inl hn), T.vw.ptS hnm, hsz, T.ob, ?_⟩, hbx, Gw.refl _ _, rfl⟩
          show s.nf + 1 ≤ (t.ws ++ [l]).length
          rw [List.length_append, List.length_singleton]; have := T.nf; omega
        · have hpt : ptT t l out = (t, 0) := by
            rw [unhide HPT]
            rw [hs] at hfl
            cases q : plcO t.ws l with
            | none => rw [q] at hfl; cases hfl
            | some i =>
              rw [q] at hfl
              show (if t.os.getD i [] = out then (t, 0) else (t, (111 : Int))) = _
              rw [if_pos (Option.some.inj hfl).symm]
          rw [hpt]
          have e1 : celF s.f l = some (ceV out) := by unfold celF; rw [hs]; rfl
          rw [e1] at q2
          rw [celF_put s.f l out (s.ptS l out s.nf).f (fun y => Ts.ptS_f y), ptS_same hs] at q2
          have q4 := T2.o.toMf s.f s.nf q2 hkeep
          exact ⟨p, s, rfl, ⟨q4, T.v, T.h, T.vw, hsz, T.ob, T.nf⟩, hbx, Gw.refl _ _, rfl⟩
      cases hfs : s.f l with
      | none =>
        have e1 : celF s.f l = none := by unfold celF; rw [hfs]; rfl
        rw [e1] at HLK
        simp only [Option.getD_none, Option.isSome_none] at HLK
        have HU2 := hide fun (w2 : World) (hb : Below w.heap.size w w2) => unhide HUP w2 hb (.inl hfs)
        clear e1 hfs hfl HUP HPT hw T he he' o1 o3 o4 hpa hok
        go_enter Try.func12, Try.ntmps12
        go_wp2_with fail
        refine hck.mono ?_
        rintro e w1 ⟨rfl, hw1⟩
        subst hw1
        go_wp2_with fail
        refine hft.mono ?_
        rintro e w2 ⟨rfl, hb2⟩
        go_wp2_with fail
        refine (unhide HSP1 w2 hb2).mono ?_
        rintro e w3 ⟨rfl, hb3⟩
        have hb23 := bstep hb2 hb3
        go_wp2_with fail
        refine (unhide HSP2 w3 hb23).mono ?_
        rintro e w4 ⟨rfl, hb4⟩
        have hb24 := bstep hb23 hb4
        have hb5 := bstep hb24 (ballo w4 (.cells #[.string (sp out)] 73))
        have c3 := (unhide HT2 _ hb5).o.c3
        have hlk := unhide HLK _ hb5
        have hb6 := bstep hb5 (ballo _ (.cells #[.string ⟨#[]⟩] 73))
        have c3' := (unhide HT2 _ hb6).o.c3
        obtain ⟨w9, hup, hpost⟩ := unhide HU2 _ hb6.drew
        have HPOST := hide hpost
        clear hpost HU2 HLK HT2 HSP1 HSP2 hb2 hb3 hb23 hb4 hb24 hck hft c1
        go_wp2
        go_region
        go_wp2
        go_ret
        exact unhide HPOST
      | some o =>
        have e1 : celF s.f l = some (ceV o) := by unfold celF; rw [hfs]; rfl
        rw [e1] at HLK
        simp only [Option.getD_some, Option.isSome_some, ceV] at HLK
        obtain ⟨-, -, oS, -⟩ := T.v.fw l o hfs
        by_cases heq : o = out
        · subst heq
          have hne : ∀ w2, (binOp .neq 73 (.agg #[.string (sp o)]) (.agg #[.string (sp o)])).run Try.prog w2 = .ok (.bool false) w2 := fun w2 => by rw [neqC _ _ oS oS w2]; simp
          have hgd : Try.prog.eqGuardType Try.prog.depth 73 = false := by kernel_rfl
          have HU2 := hide fun (w2 : World) (hb : Below w.heap.size w w2) => unhide HUP w2 hb (.inr hfs)
          clear e1 hfs hfl HUP HPT hw T he he' o1 o3 o4 hpa hok oS
          go_enter Try.func12, Try.ntmps12
          go_wp2_with fail
          refine hck.mono ?_
          rintro e w1 ⟨rfl, hw1⟩
          subst hw1
          go_wp2_with fail
          refine hft.mono ?_
          rintro e w2 ⟨rfl, hb2⟩
          go_wp2_with fail
          refine (unhide HSP1 w2 hb2).mono ?_
          rintro e w3 ⟨rfl, hb3⟩
          have hb23 := bstep hb2 hb3
          go_wp2_with fail
          refine (unhide HSP2 w3 hb23).mono ?_
          rintro e w4 ⟨rfl, hb4⟩
          have hb24 := bstep hb23 hb4
          have hb5 := bstep hb24 (ballo w4 (.cells #[.string (sp o)] 73))
          have c3 := (unhide HT2 _ hb5).o.c3
          have hlk := unhide HLK _ hb5
          have hb6 := bstep hb5 (ballo _ (.cells #[.string (sp o)] 73))
          have c3' := (unhide HT2 _ hb6).o.c3
          obtain ⟨w9, hup, hpost⟩ := unhide HU2 _ hb6.drew
          have HPOST := hide hpost
          clear hpost HU2 HLK HT2 HSP1 HSP2 hb2 hb3 hb23 hb4 hb24 hck hft c1
          go_wp2
          go_region
          go_wp2
          go_ret
          exact unhide HPOST
        · have hne : ∀ w2, (binOp .neq 73 (.agg #[.string (sp o)]) (.agg #[.string (sp out)])).run Try.prog w2 = .ok (.bool true) w2 := fun w2 => by rw [neqC _ _ oS o1 w2]; simp [heq]
          have hgd : Try.prog.eqGuardType Try.prog.depth 73 = false := by kernel_rfl
          have HP : Hid (∀ w', Below w.heap.size w w' → ChP B p (ptT t l out) w (.returned (.int .i64 111)) w') := hide fun w' hb => by
            have hpt : ptT t l out = (t, 111) := by
              rw [unhide HPT]
              rw [hfs] at hfl
              cases q : plcO t.ws l with
              | none => rw [q] at hfl; cases hfl
              | some i =>
                rw [q] at hfl
                show (if t.os.getD i [] = out then (t, 0) else (t, (111 : Int))) = _
                rw [if_neg (fun z => heq ((Option.some.inj hfl).trans z))]
            rw [hpt]; exact (unhide HT).stay 111 hb
          clear e1 hfs hfl HUP HPT hw T he he' o1 o3 o4 hpa hok oS heq
          go_enter Try.func12, Try.ntmps12
          go_wp2_with fail
          refine hck.mono ?_
          rintro e w1 ⟨rfl, hw1⟩
          subst hw1
          go_wp2_with fail
          refine hft.mono ?_
          rintro e w2 ⟨rfl, hb2⟩
          go_wp2_with fail
          refine (unhide HSP1 w2 hb2).mono ?_
          rintro e w3 ⟨rfl, hb3⟩
          have hb23 := bstep hb2 hb3
          go_wp2_with fail
          refine (unhide HSP2 w3 hb23).mono ?_
          rintro e w4 ⟨rfl, hb4⟩
          have hb24 := bstep hb23 hb4
          have hb5 := bstep hb24 (ballo w4 (.cells #[.string (sp out)] 73))
          have c3 := (unhide HT2 _ hb5).o.c3
          have hlk := unhide HLK _ hb5
          have hb6 := bstep hb5 (ballo _ (.cells #[.string (sp o)] 73))
          have HPOST := hide (unhide HP _ hb6)
          clear HP HLK HT2 HSP1 HSP2 hb2 hb3 hb23 hb4 hb24 hck hft c1
          go_wp2
          go_ret
          exact unhide HPOST
    · have HP : Hid (∀ w', Below w.heap.size w w' → ChP B p (ptT t l out) w (.returned (.int .i64 100)) w') := hide fun w' hb => by
        have e100 : fitS s l out = 100 := by
          unfold fitS chkA at hf ⊢
          rw [if_neg (by simp), if_neg (by simp)] at hf ⊢
          split at hf
          · exact absurd rfl hf
          · rename_i c; rw [if_neg c]
        have : ptT t l out = (t, 100) := by unfold ptT; rw [if_neg (by rw [unhide HE]; simp), hpa, if_pos hf, e100]
        rw [this]; exact (unhide HT).stay 100 hb
      have hf' : (fitS s l out == 0) = false := beq_eq_false_iff_ne.2 hf
      rw [hf'] at hft
      clear hf hw T he he' hpa
      go_enter Try.func12, Try.ntmps12
      go_wp2_with fail
      refine hck.mono ?_
      rintro e w1 ⟨rfl, hw1⟩
      subst hw1
      go_wp2_with fail
      refine hft.mono ?_
      rintro e w2 ⟨rfl, hb2⟩
      go_wp2
      go_ret
      exact unhide HP _ hb2
  · have HP : Hid (ChP B p (ptT t l out) w (.returned (.int .i64 (chkV l.length (fun i => l.getD i 0) (s.K : Int)).2)) w) := hide (by
      have : ptT t l out = (t, wdE l (s.K : Int)) := by unfold ptT; rw [T.vw.k, if_pos he]
      rw [this]; exact T.stay _ (Below.refl _ _))
    have he' : (chkV l.length (fun i => l.getD i 0) (s.K : Int)).2 ≠ 0 := he
    generalize (chkV l.length (fun i => l.getD i 0) (s.K : Int)).2 = z2 at *
    generalize (chkV l.length (fun i => l.getD i 0) (s.K : Int)).1 = z1 at *
    clear T he
    go_enter Try.func12, Try.ntmps12
    go_wp2_with fail
    refine hck.mono ?_
    rintro e w1 ⟨rfl, hw1⟩
    subst hw1
    go_wp2
    go_ret
    exact unhide HP
end

end Go.Proofs.Ytepmdnggiajkbaa

/-
  The program's table: Missing, Open, Torn, Rows, Cols.
-/
namespace Go.Proofs.Ytepmdnggiajkbaa
set_option linter.unusedVariables false
open Go.RowKit

section
variable {B : Nat} {w w' : World} {p : Tl} {s : Ts} {t : Tb}
/-- What Missing, Open, Torn leave. -/
def WoP (B : Nat) (p : Tl) (t : Tb) (r : Option (List Int)) (w : World) (e : Ending) (w' : World) : Prop :=
  ∃ a c s', e = .returned (.tuple #[.slice a (r.getD []).length c, .bool r.isSome]) ∧ OwnL .i64 3 w' w.heap.size (.slice a (r.getD []).length c) (r.getD []) ∧ Tab B w' p s' t ∧ Bx p.has w w'
theorem Tab.kn {kn : List Nat} (T : Tab B w p s t) (h : To B w' p { s with kn := kn }) (k : KnO s kn) (hb : Bx p.has w w') : Tab B w' p { s with kn := kn } t :=
  ⟨h, T.v.toKn k, ⟨k, T.h.cp, T.h.cl, T.h.sm⟩, T.vw.to ⟨rfl, rfl, rfl, rfl, rfl, rfl, rfl, rfl, rfl, fun _ => rfl, fun _ => rfl⟩, Nat.le_trans T.b hb.size, T.ob, T.nf⟩
theorem Tab.sv {s' : Ts} (T : Tab B w p s t) (h : To B w' p s') (g : Sv s s') (H : Hd s') (hb : Bx p.has w w') : Tab B w' p s' t :=
  ⟨h, T.v.to g H.kn.1, H, T.vw.to g, Nat.le_trans T.b hb.size, by rw [g.o]; exact T.ob, by rw [g.nf]; exact T.nf⟩
theorem mis_sb (T : Tab B w p s t) {v : List Int} (h : misT t = some v) : Sb v ∧ v.length ≤ 4096 := by
  obtain ⟨u, hu, e, he, rfl, hl, -⟩ := misT_some h
  obtain ⟨i, hi, rfl⟩ := (T.vw.all T.v).1 hu
  rw [T.vw.cols] at he
  exact ⟨(T.v.sb i).app (T.v.cb he), hl⟩
set_option maxRecDepth 100000 in
set_option maxHeartbeats 4000000 in
theorem missing_any (T : Tab B w p s t) : Calls Try.prog 5 #[.pointer (some ⟨p.b, 0, none⟩)] w (WoP B p t (misT t) w) := by
  have hfm := firstMissing_any T.o T.v T.h.kn T.h.cp
  have HS : Hid (Sb ((misT t).getD []) ∧ ((misT t).getD []).length ≤ 4096) := hide (by
    cases q : misT t with
    | none => exact ⟨Sb.nil, by simp⟩
    | some v => exact mis_sb T q)
  have HT := hide T
  clear T
  go_enter Try.func5, Try.ntmps5
  go_wp2_with fail
  refine hfm.mono ?_
  rintro e w1 ⟨kn, r, rfl, k1, k2, k3, k4⟩
  have hr := (unhide HT).vw.mis (unhide HT).v k4
  subst hr
  have HT1 := hide ((unhide HT).kn k2 k1 k3)
  have HX := hide k3
  have hn := spnum_any ((misT t).getD []) w1 (unhide HS).1 (by have := (unhide HS).2; omega)
  clear k1 k2 k3 k4 hfm
  go_wp2_with fail
  refine hn.mono ?_
  rintro e w2 ⟨v, rfl, hv, hb⟩
  obtain ⟨a, c, rfl, -, -, -, -, -⟩ := hv.shape
  have HP : Hid (WoP B p t (misT t) w (.returned (.tuple #[.slice a ((misT t).getD []).length c, .bool (misT t).isSome])) w2) := hide ⟨a, c, _, rfl, hv.mono (unhide HX).size, (unhide HT1).below hb, Bx.trans (unhide HX) (Bx.of hb) (fun _ _ h => h)⟩
  clear hv hb hn
  generalize ((misT t).getD []).length = n at *
  generalize (misT t).isSome = b at *
  go_wp2
  go_ret2
  exact unhide HP
theorem rowI_iff {u : List Int} : rowI t u < 0 ↔ ∀ r ∈ t.rows, alkT t r u = false := by
  constructor
  · exact rowI_neg
  · intro h
    rw [rowI_no fun j hj => h _ (List.getElem_mem hj)]; omega
theorem Vw.hel (W : Vw s t) (V : Vi s) (H : Hd s) (F : Ful s) {q : Nat} (hq : q < s.ls.length) : s.hel q ↔ ¬ rowI t (s.wd q) < 0 := by
  rw [rowI_iff]
  constructor
  · rintro ⟨j, hj, e⟩ n
    have := (W.alike V H F (V.rwlt hj) hq).1 e
    have h2 := n (t.rw j) (by rw [Tb.rw_at (by rw [W.rl]; exact hj)]; exact List.getElem_mem _)
    rw [W.rw hj, this] at h2; cases h2
  · intro n
    apply Classical.byContradiction
    intro hn
    refine n fun r hr => ?_
    obtain ⟨i, hi, e, _⟩ := W.row_line V hr
    cases q2 : alkT t r (s.wd q) with
    | false => rfl
    | true =>
      exfalso
      rw [← e] at q2
      exact hn ⟨i, hi, (W.alike V H F (V.rwlt hi) hq).2 q2⟩
theorem edgT_at (W : Vw s t) {i x : Nat} (hi : i < s.rows.length) (hx : x < s.K) : (edgT t)[i * s.K + x]? = some (t.rw i ++ [(x : Int)]) := by
  have hK : t.k.toNat = s.K := by rw [W.k]; omega
  unfold edgT
  rw [hK]
  rw [fm_getG (enc := fun r : List Int => (List.range s.K).map fun x : Nat => r ++ [(x : Int)]) (fun r => by simp) ([] : List Int) t.rows i x (by rw [W.rl]; exact hi) hx]
  simp [hx]; rfl
theorem Vw.opn (W : Vw s t) (V : Vi s) (H : Hd s) (F : Ful s) (hm : misT t = none) {r : Option (Nat × Nat)} (h1 : r = none → ∀ i x, i < s.rows.length → x < s.K → s.hel (1 + s.K * i + x))
    (h2 : ∀ z, r = some z → z.1 < s.rows.length ∧ z.2 < s.K ∧ ¬ s.hel (1 + s.K * z.1 + z.2) ∧ s.fro z.1 z.2) : opnT t = r.map fun z => s.wd (1 + s.K * z.1 + z.2) := by
  have hd : (allT t).drop t.rows.length = edgT t := by unfold allT; exact List.drop_left
  unfold opnT
  rw [hm, hd]
  show (edgT t).find? _ = _
  cases r with
  | none =>
    refine List.find?_eq_none.2 fun u hu => ?_
    obtain ⟨i, x, hi, hx, rfl⟩ := (mem_edgT W.k).1 hu
    rw [W.rl] at hi
    have := (W.hel V H F (V.edge hi hx)).1 (h1 rfl i x hi hx)
    rw [W.edge V hi hx] at this
    simpa using this
  | some z =>
    obtain ⟨g1, g2, g3, g4⟩ := h2 z rfl
    have hlen : (edgT t).length = s.rows.length * s.K := by
      have hK : t.k.toNat = s.K := by rw [W.k]; omega
      unfold edgT
      rw [hK, ← W.rl]
      generalize t.rows = R
      induction R with
      | nil => simp
      | cons r R ih => rw [List.flatMap_cons, List.length_append, ih, List.length_cons, Nat.add_mul]; simp; omega
    have hin : z.1 * s.K + z.2 < (edgT t).length := by rw [hlen, Nat.mul_comm, Nat.mul_comm s.rows.length]; exact mul_in g1 g2
    have he : (edgT t)[z.1 * s.K + z.2] = t.rw z.1 ++ [(z.2 : Int)] := by
      have := edgT_at W g1 g2
      rw [List.getElem?_eq_getElem hin] at this
      exact Option.some.inj this
    rw [find_at hin ?_ ?_, he, ← W.edge V g1 g2]; rfl
    · rw [he, ← W.edge V g1 g2]
      have := (fun q => g3 ((W.hel V H F (V.edge g1 g2)).2 q) : ¬ ¬ rowI t (s.wd (1 + s.K * z.1 + z.2)) < 0)
      exact decide_eq_true (Classical.not_not.1 this)
    · intro j hj
      have hK := V.k1
      have hjl : j < s.rows.length * s.K := by rw [← hlen]; omega
      have hji : j / s.K < s.rows.length := Nat.div_lt_of_lt_mul (by rw [Nat.mul_comm]; exact hjl)
      have hjx : j % s.K < s.K := Nat.mod_lt _ hK
      have hjj : j = j / s.K * s.K + j % s.K := by have := Nat.div_add_mod j s.K; rw [Nat.mul_comm] at this; omega
      have ej : (edgT t)[j]'(by omega) = t.rw (j / s.K) ++ [((j % s.K : Nat) : Int)] := by
        have := edgT_at W hji hjx
        rw [← hjj, List.getElem?_eq_getElem (by omega)] at this
        exact Option.some.inj this
      rw [ej, ← W.edge V hji hjx]
      have hfr := g4 (j / s.K) (j % s.K) hji hjx (by
        rcases Nat.lt_trichotomy (j / s.K) z.1 with c | c | c
        · exact .inl c
        · right; refine ⟨c, ?_⟩; rw [c] at hjj; omega
        · exfalso
          have : (z.1 + 1) * s.K ≤ j / s.K * s.K := Nat.mul_le_mul_right _ c
          rw [Nat.add_mul] at this; omega)
      have := (W.hel V H F (V.edge hji hjx)).1 hfr
      simpa using this
set_option maxRecDepth 100000 in
set_option maxHeartbeats 4000000 in
theorem tbopen_any (T : Tab B w p s t) : Calls Try.prog 6 #[.pointer (some ⟨p.b, 0, none⟩)] w (WoP B p t (opnT t) w) := by
  have hca := compareAll_any T.o T.v T.h
  have HT := hide T
  clear T
  go_enter Try.func6, Try.ntmps6
  go_wp2_with fail
  refine hca.mono ?_
  rintro e w1 ⟨s', r, rfl, k1, k2, k3, k4, k5, k6⟩
  have hr := (unhide HT).vw.mis (unhide HT).v k5
  have T1 := (unhide HT).sv k1 k2 k3 k4
  have HX := hide k4
  cases r with
  | some v =>
    have ho : opnT t = none := by unfold opnT; rw [hr]; rfl
    have HP : Hid (WoP B p t (opnT t) w (.returned (.tuple #[.slice none 0 0, .bool false])) w1) := hide (by rw [ho]; exact ⟨none, 0, s', rfl, OwnL.nil _ _ _ _, T1, k4⟩)
    simp only [Option.isNone_some]
    clear k1 k2 k3 k4 k5 k6 hr T1 hca ho
    go_wp2
    go_ret2
    exact unhide HP
  | none =>
    have F := k6 rfl
    have hcb : ∀ i, i < s'.ls.length → (s'.ln i).cl ≤ 100000000 := fun i hi => by
      obtain ⟨G, g1, g2⟩ := k3.cl
      have := (g2 i hi).1
      have := k3.many T1.v
      omega
    have hop := open_any T1.o T1.v T1.vw.r1 hcb
    have HT1 := hide T1
    have HF := hide F
    have HR := hide hr
    simp only [Option.isNone_none]
    clear k1 k2 k3 k4 k5 k6 hr T1 hca hcb F
    go_wp2_with fail
    refine hop.mono ?_
    rintro e w2 ⟨z, rfl, hb2, h1, h2⟩
    have ho := (unhide HT1).vw.opn (unhide HT1).v (unhide HT1).h (unhide HF) (unhide HR) h1 h2
    cases z with
    | none =>
      have HP : Hid (WoP B p t (opnT t) w (.returned (.tuple #[.slice none 0 0, .bool false])) w2) := hide (by rw [ho]; exact ⟨none, 0, s', rfl, OwnL.nil _ _ _ _, (unhide HT1).below hb2, Bx.trans (unhide HX) (Bx.of hb2) (fun _ _ h => h)⟩)
      simp only [Option.isSome_none]
      clear hop ho h1 h2
      go_wp2
      go_ret2
      exact unhide HP
    | some z =>
      obtain ⟨g1, g2, -, -⟩ := h2 z rfl
      have hq := (unhide HT1).v.edge g1 g2
      have hq' : ((1 + s'.K * z.1 + z.2 : Nat) : Int) < (s'.ls.length : Int) := by omega
      have T2 := (unhide HT1).below hb2
      have c4 := T2.o.c4
      obtain ⟨l0, -⟩ := T2.o.lc hq
      have hlen := T2.o.lnc
      have hwd : (s'.ln (1 + s'.K * z.1 + z.2)).wd = s'.wd (1 + s'.K * z.1 + z.2) := rfl
      rw [hwd] at l0
      have hn := spnum_any (s'.wd (1 + s'.K * z.1 + z.2)) w2 (T2.v.sb _) (by have := T2.v.wl1 hq; omega)
      have HB2 := hide hb2
      have HO := hide (show opnT t = some (s'.wd (1 + s'.K * z.1 + z.2)) from ho)
      simp only [Option.isSome_some, Option.map_some, Option.getD_some]
      clear hop ho h1 h2 hq g1 g2 hwd T2
      generalize 1 + s'.K * z.1 + z.2 = Q at *
      go_wp2_with fail
      refine hn.mono ?_
      rintro e w3 ⟨v, rfl, hv, hb3⟩
      obtain ⟨a, c, rfl, -, -, -, -, -⟩ := hv.shape
      have HP : Hid (WoP B p t (opnT t) w (.returned (.tuple #[.slice a (s'.wd Q).length c, .bool true])) w3) := hide (by
        rw [unhide HO]
        exact ⟨a, c, s', rfl, hv.mono (Nat.le_trans (unhide HX).size (unhide HB2).size), (unhide HT1).below (bstep (unhide HB2) hb3), Bx.trans (unhide HX) (Bx.of (bstep (unhide HB2) hb3)) (fun _ _ h => h)⟩)
      clear hv hn hb3
      generalize (s'.wd Q).length = n at *
      go_wp2
      go_ret2
      exact unhide HP
set_option maxRecDepth 100000 in
set_option maxHeartbeats 4000000 in
theorem tbtorn_any (T : Tab B w p s t) : Calls Try.prog 7 #[.pointer (some ⟨p.b, 0, none⟩)] w (WoP B p t (trnT t) w) := by
  have hca := compareAll_any T.o T.v T.h
  have HT := hide T
  clear T
  go_enter Try.func7, Try.ntmps7
  go_wp2_with fail
  refine hca.mono ?_
  rintro e w1 ⟨s', r, rfl, k1, k2, k3, k4, k5, k6⟩
  have hr := (unhide HT).vw.mis (unhide HT).v k5
  have T1 := (unhide HT).sv k1 k2 k3 k4
  have HX := hide k4
  cases r with
  | some v =>
    have ho : trnT t = none := by unfold trnT; rw [hr]; rfl
    have HP : Hid (WoP B p t (trnT t) w (.returned (.tuple #[.slice none 0 0, .bool false])) w1) := hide (by rw [ho]; exact ⟨none, 0, s', rfl, OwnL.nil _ _ _ _, T1, k4⟩)
    simp only [Option.isNone_some]
    clear k1 k2 k3 k4 k5 k6 hr T1 hca ho
    go_wp2
    go_ret2
    exact unhide HP
  | none =>
    have hop := torn_any T1.o T1.v T1.h (k6 rfl) T1.vw
    have ho : trnT t = fs (trnJ t) t.rows.length := by unfold trnT; rw [hr]; rfl
    have HSB : Hid (Sb ((trnT t).getD []) ∧ ((trnT t).getD []).length ≤ 4097) := hide (by
      cases q : trnT t with
      | none => exact ⟨Sb.nil, by simp⟩
      | some v =>
        rw [ho] at q
        obtain ⟨i, -, q2, -⟩ := fs_some q
        obtain ⟨d, -, q3, -⟩ := fs_some q2
        unfold trnD at q3
        split at q3
        · obtain ⟨x, hx, q4, -⟩ := fs_some q3
          obtain ⟨k, hk, q5, -⟩ := fs_some q4
          unfold trnK at q5
          split at q5
          · cases q5
          · cases q5
            have hxK : (x : Int) < (s'.K : Int) := by have := T1.vw.k; omega
            have h2 := T1.v.k2
            have hm : t.co k ∈ s'.cols := by rw [T1.vw.co]; exact Vi.co_mem (by rw [← T1.vw.cols]; exact hk)
            have h3 := (T1.v.cw _ hm).1
            refine ⟨fun y hy => ?_, by show (_ :: _).length ≤ _; simp; omega⟩
            rcases List.mem_cons.1 hy with e | e
            · subst e; omega
            · exact T1.v.cb hm y e
        · cases q3)
    unfold TrP at hop
    rw [← ho] at hop
    have HT1 := hide T1
    simp only [Option.isNone_none]
    clear k1 k2 k3 k4 k5 k6 hr T1 hca ho
    go_wp2_with fail
    refine hop.mono ?_
    rintro e w2 ⟨rfl, hb2⟩
    have hn := spnum_any ((trnT t).getD []) w2 (unhide HSB).1 (by have := (unhide HSB).2; omega)
    have HB2 := hide hb2
    clear hop hb2
    go_wp2_with fail
    refine hn.mono ?_
    rintro e w3 ⟨v, rfl, hv, hb3⟩
    obtain ⟨a, c, rfl, -, -, -, -, -⟩ := hv.shape
    have HP : Hid (WoP B p t (trnT t) w (.returned (.tuple #[.slice a ((trnT t).getD []).length c, .bool (trnT t).isSome])) w3) := hide ⟨a, c, s', rfl, hv.mono (Nat.le_trans (unhide HX).size (unhide HB2).size), (unhide HT1).below (bstep (unhide HB2) hb3), Bx.trans (unhide HX) (Bx.of (bstep (unhide HB2) hb3)) (fun _ _ h => h)⟩
    clear hv hn hb3
    generalize ((trnT t).getD []).length = n at *
    generalize (trnT t).isSome = b at *
    go_wp2
    go_ret2
    exact unhide HP
/-- What Rows, Cols leave. -/
def LsP (L : List (List Int)) (w : World) (e : Ending) (w' : World) : Prop := ∃ v us, e = .returned v ∧ LLs w' w.heap.size v us L ∧ Below w.heap.size w w'
set_option maxRecDepth 100000 in
set_option maxHeartbeats 4000000 in
theorem tbrows_any (T : Tab B w p s t) : Calls Try.prog 13 #[.pointer (some ⟨p.b, 0, none⟩)] w (LsP t.rows w) := by
  obtain ⟨gr, er, -, hcr, -, -, -⟩ := own_at (i := 0) T.o.rw T.vw.r1
  have HC : Hid (∀ (Y : World), To B Y p s → Y.cell? ⟨p.b, 5, none⟩ = some (.slice (some ⟨gr, 0, none⟩) s.rows.length p.cr) ∧ ∀ i, i < s.rows.length → Y.cell? ⟨gr, i, none⟩ = some (.int .i64 ((s.rw i : Nat) : Int))) := hide fun Y hY => by
    have h5 := hY.c5
    rw [er] at h5
    refine ⟨h5, fun i hi => ?_⟩
    obtain ⟨g', e', -, -, -, k0, -⟩ := own_at (i := i) hY.rw hi
    rw [er] at e'
    cases e'
    exact k0
  have c5 := (unhide HC w T.o).1
  have hrl := T.v.rl
  have hl := T.vw.rl
  have HT := hide T
  clear T er
  go_enter Try.func13, Try.ntmps13
  go_wp2
  go_loopw [3, 13] (fun v iv wr => ∃ (I : Nat) (us : Nat → Value) (av : Option Addr) (cv : Nat), v = .slice av I cv ∧ iv = .int .i64 (I : Int) ∧ I ≤ s.rows.length ∧ Hid (LLs wr w.heap.size (.slice av I cv) us (t.rows.take I)) ∧ Below w.heap.size w wr) (fun _ iv _ => s.rows.length - (intOf iv).toNat)
  case atStart => exact ⟨0, fun _ => .slice none 0 0, none, 0, rfl, rfl, Nat.zero_le _, hide (LLs.nil _ _ _), Below.refl _ _⟩
  case round =>
    clear c5
    obtain ⟨I, us, av, cv, rfl, rfl, hI, HL, hB⟩ := hrel
    have hln : (t.rows.take I).length = I := by rw [List.length_take]; omega
    by_cases hlt : I < s.rows.length
    · have hlt' : (I : Int) < (s.rows.length : Int) := by omega
      have T2 := (unhide HT).below hB
      obtain ⟨d5, dr⟩ := unhide HC wr T2.o
      have k0 := dr I hlt
      have hP := T2.v.rwlt hlt
      have hP' : ((s.rw I : Nat) : Int) < (s.ls.length : Int) := by omega
      have c4 := T2.o.c4
      obtain ⟨l0, -⟩ := T2.o.lc hP
      have hlen := T2.o.lnc
      have hwd : (s.ln (s.rw I)).wd = t.rw I := (T2.vw.rw hlt).symm
      rw [hwd] at l0
      have hn := spnum_any (t.rw I) wr (by rw [T2.vw.rw hlt]; exact T2.v.sb _) (by rw [T2.vw.rw hlt]; have := T2.v.wl1 hP; omega)
      have HE := hide (show t.rows.take (I + 1) = t.rows.take I ++ [t.rw I] by rw [List.take_succ_eq_append_getElem (by omega), Tb.rw_at (by omega)])
      have HLN := hide hln
      clear T2 dr hwd d5 hln
      generalize s.rw I = P at *
      generalize t.rw I = U at *
      go_wp2_with fail
      refine hn.mono ?_
      rintro e w7 ⟨v7, rfl, ho7, hb7⟩
      have z7 := hb7.size
      have zB := hB.size
      obtain ⟨a7, c7, rfl, -, -, -, -, -⟩ := ho7.shape
      clear hn
      go_wp2_with (at_builtin; refine wplV_append3 rfl (.tmp 17) (.tmp 27) rfl w.heap.size _ (t.rows.take I).length us rfl ((((unhide HL).out).below hb7).alloc _) ⟨w7.heap.size, 0, none⟩ 1 1 (fun _ => .slice a7 U.length c7) rfl (RdV.lit w7 1 (fun _ => .slice a7 U.length c7) _ (by unfold maxLen; omega) (by simp [cellsV])) (by intro i _; exact ⟨_, _, _, rfl⟩) (by omega) (by have := unhide HLN; omega) (by simp; omega) ?_; intro v8 w8 ho8 hg8 hv8; have hLA := LLs.add (unhide HL) hB ho7 hb7 _ ho8 hg8 hv8; obtain ⟨a8, c8, e8, -⟩ := hLA.1.rdx; have e9 : (t.rows.take I ++ [U]).length = I + 1 := (by rw [List.length_append, unhide HLN]; rfl); rw [e9] at e8; subst e8)
      go_roundw
      case rel => exact ⟨I + 1, _, a8, c8, rfl, by go_num, by omega, hide (by rw [unhide HE]; exact hLA.1), hLA.2⟩
      case measure => simp [intOf]; omega
    · obtain rfl : I = s.rows.length := by omega
      have HP : Hid (∀ v, LLs wr w.heap.size v us (t.rows.take s.rows.length) → LsP t.rows w (.returned v) wr) := hide fun v h => ⟨v, us, rfl, by rw [← hl, List.take_length] at h; exact h, hB⟩
      go_wp2
      go_ret
      exact unhide HP _ (unhide HL)
set_option maxRecDepth 100000 in
set_option maxHeartbeats 4000000 in
theorem tbcols_any (T : Tab B w p s t) : Calls Try.prog 14 #[.pointer (some ⟨p.b, 0, none⟩)] w (LsP t.cols w) := by
  have hcc := T.v.cl
  have hct := T.vw.cols
  by_cases h0 : s.cols.length = 0
  · have c7 := T.o.c7
    rw [h0] at c7
    have hz : t.cols = [] := by rw [hct]; exact List.length_eq_zero_iff.1 h0
    have HP : Hid (LsP t.cols w (.returned (.slice none 0 0)) w) := hide (by rw [hz]; exact ⟨_, fun _ => .slice none 0 0, rfl, LLs.nil _ _ _, Below.refl _ _⟩)
    clear T hct hcc h0 hz
    go_enter Try.func14, Try.ntmps14
    go_wp2
    go_loopw [3, 13] (fun v iv wr => v = .slice none 0 0 ∧ iv = .int .i64 0 ∧ wr = w) (fun _ _ _ => 0)
    case atStart => exact ⟨rfl, rfl, rfl⟩
    case round =>
      obtain ⟨rfl, rfl, rfl⟩ := hrel
      go_wp2
      go_ret
      exact unhide HP
  · obtain ⟨gc, ea, -, -⟩ := T.o.cc (i := 0) (by omega)
    have HC : Hid (∀ (Y : World), To B Y p s → Y.cell? ⟨p.b, 7, none⟩ = some (.slice (some ⟨gc, 0, none⟩) s.cols.length p.cc) ∧ ∀ i, i < s.cols.length → Y.cell? ⟨gc, i, none⟩ = some (.string (sp (s.co i)))) := hide fun Y hY => by
      have h7 := hY.c7
      rw [ea] at h7
      refine ⟨h7, fun i hi => ?_⟩
      obtain ⟨g', e', -, k0⟩ := hY.cc hi
      rw [ea] at e'
      cases e'
      exact k0
    have c7 := (unhide HC w T.o).1
    have HT := hide T
    have HCT := hide hct
    have HH := hide h0
    clear T ea hct h0
    go_enter Try.func14, Try.ntmps14
    go_wp2
    go_loopw [3, 13] (fun v iv wr => ∃ (I : Nat) (us : Nat → Value) (av : Option Addr) (cv : Nat), v = .slice av I cv ∧ iv = .int .i64 (I : Int) ∧ I ≤ s.cols.length ∧ Hid (LLs wr w.heap.size (.slice av I cv) us (s.cols.take I)) ∧ Below w.heap.size w wr) (fun _ iv _ => s.cols.length - (intOf iv).toNat)
    case atStart => exact ⟨0, fun _ => .slice none 0 0, none, 0, rfl, rfl, Nat.zero_le _, hide (LLs.nil _ _ _), Below.refl _ _⟩
    case round =>
      clear c7
      obtain ⟨I, us, av, cv, rfl, rfl, hI, HL, hB⟩ := hrel
      have hln : (s.cols.take I).length = I := by rw [List.length_take]; omega
      by_cases hlt : I < s.cols.length
      · have hlt' : (I : Int) < (s.cols.length : Int) := by omega
        have T2 := (unhide HT).below hB
        obtain ⟨d7, dr⟩ := unhide HC wr T2.o
        have k0 := dr I hlt
        have hm := Vi.co_mem (s := s) hlt
        have hn := spnum_any (s.co I) wr (T2.v.cb hm) (by have := (T2.v.cw _ hm).1; omega)
        have HE := hide (show s.cols.take (I + 1) = s.cols.take I ++ [s.co I] by rw [List.take_succ_eq_append_getElem (by omega)]; unfold Ts.co; rw [List.getD_eq_getElem?_getD, List.getElem?_eq_getElem hlt]; rfl)
        have HLN := hide hln
        clear T2 dr d7 hln hm
        generalize s.co I = U at *
        go_wp2_with fail
        refine hn.mono ?_
        rintro e w7 ⟨v7, rfl, ho7, hb7⟩
        have z7 := hb7.size
        have zB := hB.size
        obtain ⟨a7, c7, rfl, -, -, -, -, -⟩ := ho7.shape
        clear hn
        go_wp2_with (at_builtin; refine wplV_append3 rfl (.tmp 17) (.tmp 20) rfl w.heap.size _ (s.cols.take I).length us rfl ((((unhide HL).out).below hb7).alloc _) ⟨w7.heap.size, 0, none⟩ 1 1 (fun _ => .slice a7 U.length c7) rfl (RdV.lit w7 1 (fun _ => .slice a7 U.length c7) _ (by unfold maxLen; omega) (by simp [cellsV])) (by intro i _; exact ⟨_, _, _, rfl⟩) (by omega) (by have := unhide HLN; omega) (by simp; omega) ?_; intro v8 w8 ho8 hg8 hv8; have hLA := LLs.add (unhide HL) hB ho7 hb7 _ ho8 hg8 hv8; obtain ⟨a8, c8, e8, -⟩ := hLA.1.rdx; have e9 : (s.cols.take I ++ [U]).length = I + 1 := (by rw [List.length_append, unhide HLN]; rfl); rw [e9] at e8; subst e8)
        go_roundw
        case rel => exact ⟨I + 1, _, a8, c8, rfl, by go_num, by omega, hide (by rw [unhide HE]; exact hLA.1), hLA.2⟩
        case measure => simp [intOf]; omega
      · obtain rfl : I = s.cols.length := by omega
        have HP : Hid (∀ v, LLs wr w.heap.size v us (s.cols.take s.cols.length) → LsP t.cols w (.returned v) wr) := hide fun v h => ⟨v, us, rfl, by rw [List.take_length] at h; rw [unhide HCT]; exact h, hB⟩
        go_wp2
        go_ret
        exact unhide HP _ (unhide HL)
end

end Go.Proofs.Ytepmdnggiajkbaa
