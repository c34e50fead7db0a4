/-
  The reference's Import of a text of the second kind whose first line is good.
-/
import Derived.Test.YtdnmabemollbeaaDoorTRImA
import Derived.Deep.CutRange
namespace Go.Proofs.YtdnmabemollbeaaDoor
open Go.RowKit

set_option maxRecDepth 100000 in
set_option maxHeartbeats 4000000 in
theorem rimport_m_ok (a : Option Addr) (c : Nat) (b : List UInt8) (w : World) (hr : RdL .u8 w a (zs b)) (hb : b.length ≤ 20000) (hm : b.head? = some 109) (l0 : List (Int × Int)) (j0 : Nat) (ht : tk b 0 (hdR 2) = .ok (l0, j0)) :
    Calls Tryd.prog 20 #[.slice a b.length c] w fun e w' => RiPost w w' b e := by
  have hb' : ¬ (16777216 < (b.length : Int)) := by omega
  have hkd : kdR b = 2 := by unfold kdR; rw [if_pos hm]
  obtain ⟨K, O, N, rfl, hK0, hK1, hN0, hN1, hO0, hO1, -, hj0, HV⟩ := ri_good hb hkd (.inr rfl) ht
  have hBW := riW_below 2 w
  have hBT := balloc hBW (.cells #[.string ⟨#[109, 101, 97, 108, 121, 32]⟩, .int .i64 0, .int .i64 0, .int .i64 0, .string ⟨#[]⟩, .int .i64 1, .int .i64 64, .int .i64 1, .string ⟨#[32]⟩, .int .i64 0, .int .i64 0, .int .i64 0, .string ⟨#[]⟩, .int .i64 1, .int .i64 64, .int .i64 33, .string ⟨#[32]⟩, .int .i64 0, .int .i64 0, .int .i64 0, .string ⟨#[]⟩, .int .i64 1, .int .i64 1024, .int .i64 3, .string ⟨#[10]⟩, .int .i64 0, .int .i64 0, .int .i64 0] 73)
  have htk := take_any a c b 0 (riW 2 w).heap.size 7 (hdR 2) _ (hr.below hBT) (by omega) (Nat.zero_le _) (row_m (riW 2 w) 73) ok_m (by decide)
  have RS := Rs.start 2 w (.cells #[.string ⟨#[109, 101, 97, 108, 121, 32]⟩, .int .i64 0, .int .i64 0, .int .i64 0, .string ⟨#[]⟩, .int .i64 1, .int .i64 64, .int .i64 1, .string ⟨#[32]⟩, .int .i64 0, .int .i64 0, .int .i64 0, .string ⟨#[]⟩, .int .i64 1, .int .i64 64, .int .i64 33, .string ⟨#[32]⟩, .int .i64 0, .int .i64 0, .int .i64 0, .string ⟨#[]⟩, .int .i64 1, .int .i64 1024, .int .i64 3, .string ⟨#[10]⟩, .int .i64 0, .int .i64 0, .int .i64 0] 73)
  have HRS := hide RS
  rw [ht, riW_size] at htk
  unfold TkPost at htk
  have h0 : 0 < b.length := by cases b with
    | nil => cases hm
    | cons x b => simp
  obtain ⟨g, off, rfl, -⟩ := hr.byte h0
  have h0' : (0 : Int) < (b.length : Int) := by omega
  have hv : bt8 b 0 = 109 := by
    cases b with
    | nil => cases hm
    | cons x b => simp at hm; subst hm; rfl
  obtain ⟨k0, k1, k2, k3⟩ := riW_k 1 w
  obtain ⟨o0, o1, o2, o3⟩ := riW_o 1 w
  obtain ⟨n0, n1, n2, n3⟩ := riW_n 1 w
  obtain ⟨s0, s1, s2, s3⟩ := riW_b 1 w
  obtain ⟨e0, e1, e2, e3⟩ := riW_e 1 w
  have hc1 : (riW 1 w).cell? ⟨g, off, none⟩ = some (.int .u8 109) := by
    obtain ⟨g', off', e, hc'⟩ := (hr.below (riW_below 1 w)).byte h0
    cases e
    have := hc' 0 h0
    rw [hv, Nat.add_zero] at this
    exact this
  clear hm hv hkd ht hBW hBT RS
  unfold riW at hc1 k0 k1 k2 k3 o0 o1 o2 o3 n0 n1 n2 n3 s0 s1 s2 s3 e0 e1 e2 e3 htk
  go_enter Tryd.func20, Tryd.ntmps20
  go_wp2_with fail
  refine htk.mono ?_
  rintro e w2 ⟨vh, rfl, ho2, hb2⟩
  have HR2 := hide ((unhide HRS).below (by exact hb2))
  obtain ⟨gh, ch, rfl, -, -, hgh, hgh2, hch, -⟩ := ho2.pos (by simp [hdV])
  have c0 := hch 0 (by simp [hdV])
  have c1 := hch 1 (by simp [hdV])
  have c2 := hch 2 (by simp [hdV])
  simp only [hdV_m, List.map_cons, List.map_nil, List.getD_cons_zero, List.getD_cons_succ, List.length_cons, List.length_nil] at c0 c1 c2 ⊢
  clear htk hc1 k0 k1 k2 k3 o0 o1 o2 o3 n0 n1 n2 n3 s0 s1 s2 s3 e0 e1 e2 e3 ho2 HRS hch
  have hghb : w.heap.size + 1 + 1 + 1 + 1 + 1 + 1 + 1 ≤ gh := by simp at hgh; omega
  have hne1 : gh ≠ w.heap.size + 1 + 1 + 1 + 1 + 1 + 1 := by omega
  have hne2 : w.heap.size + 1 + 1 + 1 + 1 + 1 + 1 ≠ gh := by omega
  obtain ⟨m0, m1, m2, m3, m4, m5, mf, -, -, -⟩ := id (unhide HR2).mo
  have f1 := mf 1
  have f2 := mf 2
  have f3 := mf 3
  clear hgh hb2 mf
  go_wp2
  go_cut [] from 74 to 84 (fun wx => w2.grownBy wx (some (w.heap.size + 1 + 1 + 1 + 1 + 1 + 1)) ∧ Rs w wx 2 K 2 N)
  case first =>
    go_region
    all_goals go_wp2
    all_goals
      go_meet
      exact (unhide HR2).head _ _
  case rest =>
    obtain ⟨hg3, hR3⟩ := hcut
    have c1' : wc.cell? ⟨gh, 1, none⟩ = some (.int .i64 (O : Int)) := by
      rw [World.cell?_of_block (w := w2) (a := ⟨gh, 1, none⟩) (hg3.block gh hgh2 fun e => by injection e; omega)]; exact c1
    clear c0 c1 c2 m0 m1 m2 m3 m4 m5 f1 f2 f3
    obtain ⟨m0, m1, m2, m3, m4, m5, mf, -, -, -⟩ := id hR3.mo
    have f2 := mf 2
    have hR4 := hide (hR3.says (O : Int))
    have wN : IntKind.i64.wrap ((N : Int) - 1) = (N : Int) - 1 := by rw [IntKind.wrap_i64]; omega
    have wO : IntKind.i64.wrap ((O : Int) - 1) = (O : Int) - 1 := by rw [IntKind.wrap_i64]; omega
    clear mf hg3 hR3 HR2
    go_wp2
    generalize wc.setCell ⟨w.heap.size + 1 + 1 + 1 + 1 + 1 + 1, 2, none⟩ (.int .i64 (O : Int)) = w4 at hR4 ⊢
    clear m0 m1 m2 m3 m4 m5 f2 c1'
    obtain ⟨m0, m1, m2, m3, m4, m5, -, -, -, -⟩ := id (unhide hR4).mo
    have hlt4 := (unhide hR4).lt
    have a2 : ∀ U, (w4.alloc U).cell? ⟨w.heap.size + 1 + 1 + 1 + 1 + 1 + 1, 2, none⟩ = some (.int .i64 (O : Int)) := fun U => by rw [(ballo w4 U).cell (by exact hlt4)]; exact m2
    have a3 : ∀ U, (w4.alloc U).cell? ⟨w.heap.size + 1 + 1 + 1 + 1 + 1 + 1, 3, none⟩ = some (.int .i64 (N : Int)) := fun U => by rw [(ballo w4 U).cell (by exact hlt4)]; exact m3
    have a4 : ∀ U V, ((w4.alloc U).alloc V).cell? ⟨w.heap.size + 1 + 1 + 1 + 1 + 1 + 1, 2, none⟩ = some (.int .i64 (O : Int)) := fun U V => by rw [(balloc (ballo w4 U) V).cell (by exact hlt4)]; exact m2
    have a5 : ∀ U V, ((w4.alloc U).alloc V).cell? ⟨w.heap.size + 1 + 1 + 1 + 1 + 1 + 1, 3, none⟩ = some (.int .i64 (N : Int)) := fun U V => by rw [(balloc (ballo w4 U) V).cell (by exact hlt4)]; exact m3
    go_cut [14, 15] from 92 to 99 (fun v y wx => Two w4 wx v y O N)
    case first =>
      go_region
      all_goals go_wp2
      all_goals
        go_meet
        first | exact Two.a _ _ _ _ | exact Two.b _ _ _ _
    case rest =>
      obtain ⟨gs, gy, rfl, rfl, hS, hY, hb5⟩ := hcut
      have HR5 := hide ((unhide hR4).below hb5)
      have hB5 := (unhide HR5).bw
      clear m0 m1 m2 m3 m4 m5 hlt4 a2 a3 a4 a5 hgh2 hghb hne1 hne2 hb5 hR4
      obtain ⟨m0, m1, m2, m3, m4, m5, mf, -, -, -⟩ := id (unhide HR5).mo
      clear mf
      have hkp := (unhide HR5).bl
      have hB0 : Hid (Below w.heap.size w wc) := hide (unhide HR5).bw
      have hK1' : (K : Int) ≤ 64 := by omega
      have hmb := (unhide HR5).lt
      clear hB5
      go_wp2
      go_loopw [16, 17] (fun v x wx => ∃ X : Nat, x = .int .i64 (X : Int) ∧ X ≤ K ∧ OwnP wx wc.heap.size v (lnB 2 O N X) ∧ Below wc.heap.size wc wx) (fun _ x _ => K - (intOf x).toNat)
      case atStart => exact ⟨0, rfl, Nat.zero_le _, OwnG.nil _ _, Below.refl _ _⟩
      case round =>
        obtain ⟨X, rfl, hX, hO, hB⟩ := hrel
        clear m0 m1 m2 m3 m4 m5
        have HM := hide ((unhide HR5).below hB)
        obtain ⟨m0, m1, -, -, -, -, -, -, -, -⟩ := id (unhide HM).mo
        have hsB := hB.size
        have hlL := lnB_len 2 (O : Int) (N : Int) X
        by_cases hlt : X < K
        · have hlt' : (X : Int) < (K : Int) := by omega
          obtain ⟨L, hL⟩ : ∃ L, L = lnB 2 (O : Int) (N : Int) X := ⟨_, rfl⟩
          rw [← hL] at hO hlL
          by_cases hX0 : X = 0
          · have EL : Hid (L ++ [.nm 0 ((N : Int) - 1) 32] ++ [.tx [47], .nm 0 ((O : Int) - 1) 33] = lnB 2 O N (X + 1)) := by
              show _ = _; rw [lnB, ← hL, if_neg (by decide), if_pos hX0]; simp
            clear hL
            subst hX0
            obtain ⟨s0, s1, s2, s3⟩ := hS.below hB
            go_wp2_with (first | (at_builtin; refine wplG_push ePc rfl (.tmp 128) (.tmp 130) rfl wc.heap.size _ (L) rfl (OwnG.below hO (ballo _ _)) wr.heap.size 1 (.nm 0 ((N : Int) - 1) 32) rfl (lit_pc _ (.nm 0 ((N : Int) - 1) 32) _) (by (try simp only [List.length_append, List.length_cons, List.length_nil]); omega) (by unfold maxLen; (try simp only [List.length_append, List.length_cons, List.length_nil]); omega) (by rw [World.size_alloc]; have := hB.size; omega) ?_; intro v1 w1 ho1 hg1 _; have hB1 := own_blw (OwnG.below hO (ballo _ _)) (balloc hB _) hg1 (by rw [World.size_alloc]; have := hB.size; omega); clear hg1 s0 s1 s2 s3 m0 m1; obtain ⟨m0, m1, -, -, -, -, -, -, -, -⟩ := id ((unhide HR5).below hB1).mo; obtain ⟨y0, y1, y2, y3⟩ := hY.below hB1) | (at_builtin; refine wplG_push2 ePc rfl (.tmp 135) (.tmp 138) rfl wc.heap.size _ (L ++ [.nm 0 ((N : Int) - 1) 32]) rfl (OwnG.below ho1 (ballo _ _)) w1.heap.size 2 (.tx [47]) (.nm 0 ((O : Int) - 1) 33) rfl (lit_pcs _ (.tx [47]) (.nm 0 ((O : Int) - 1) 33) _) (by (try simp only [List.length_append, List.length_cons, List.length_nil]); omega) (by unfold maxLen; (try simp only [List.length_append, List.length_cons, List.length_nil]); omega) (by rw [World.size_alloc]; have := hB1.size; omega) ?_; intro v2 w2 ho2 hg2 _; have hB2 := own_blw (OwnG.below ho1 (ballo _ _)) (balloc hB1 _) hg2 (by rw [World.size_alloc]; have := hB1.size; omega); clear hg2 y0 y1 y2 y3 m0 m1; obtain ⟨m0, m1, -, -, -, -, -, -, -, -⟩ := id ((unhide HR5).below hB2).mo))
            go_roundw
            case rel => (repeat apply Exists.intro); exact ⟨⟨0 + 1, by go_num, by omega, by rw [← unhide EL]; exact ho2, hB2⟩, rfl⟩
            case measure => simp [intOf]; omega
          · have EL : Hid (L ++ [.tx [32]] ++ [.nm 0 ((N : Int) - 1) 32] ++ [.tx [47], .nm 0 ((O : Int) - 1) 33] = lnB 2 O N (X + 1)) := by
              show _ = _; rw [lnB, ← hL, if_neg (by decide), if_neg hX0]; simp
            clear hL
            have hX0' : (0 : Int) < (X : Int) := by omega
            obtain ⟨k0, k1, k2, k3⟩ := hkp.below hB
            go_wp2_with (first | (at_builtin; refine wplG_push ePc rfl (.tmp 124) (.tmp 126) rfl wc.heap.size _ (L) rfl (OwnG.below hO (ballo _ _)) wr.heap.size 1 (.tx [32]) rfl (lit_pc _ (.tx [32]) _) (by (try simp only [List.length_append, List.length_cons, List.length_nil]); omega) (by unfold maxLen; (try simp only [List.length_append, List.length_cons, List.length_nil]); omega) (by rw [World.size_alloc]; have := hB.size; omega) ?_; intro v1 w1 ho1 hg1 _; have hB1 := own_blw (OwnG.below hO (ballo _ _)) (balloc hB _) hg1 (by rw [World.size_alloc]; have := hB.size; omega); clear hg1 k0 k1 k2 k3 m0 m1; obtain ⟨m0, m1, -, -, -, -, -, -, -, -⟩ := id ((unhide HR5).below hB1).mo; obtain ⟨s0, s1, s2, s3⟩ := hS.below hB1) | (at_builtin; refine wplG_push ePc rfl (.tmp 128) (.tmp 130) rfl wc.heap.size _ (L ++ [.tx [32]]) rfl (OwnG.below ho1 (ballo _ _)) w1.heap.size 1 (.nm 0 ((N : Int) - 1) 32) rfl (lit_pc _ (.nm 0 ((N : Int) - 1) 32) _) (by (try simp only [List.length_append, List.length_cons, List.length_nil]); omega) (by unfold maxLen; (try simp only [List.length_append, List.length_cons, List.length_nil]); omega) (by rw [World.size_alloc]; have := hB1.size; omega) ?_; intro v2 w2 ho2 hg2 _; have hB2 := own_blw (OwnG.below ho1 (ballo _ _)) (balloc hB1 _) hg2 (by rw [World.size_alloc]; have := hB1.size; omega); clear hg2 s0 s1 s2 s3 m0 m1; obtain ⟨m0, m1, -, -, -, -, -, -, -, -⟩ := id ((unhide HR5).below hB2).mo; obtain ⟨y0, y1, y2, y3⟩ := hY.below hB2) | (at_builtin; refine wplG_push2 ePc rfl (.tmp 135) (.tmp 138) rfl wc.heap.size _ (L ++ [.tx [32]] ++ [.nm 0 ((N : Int) - 1) 32]) rfl (OwnG.below ho2 (ballo _ _)) w2.heap.size 2 (.tx [47]) (.nm 0 ((O : Int) - 1) 33) rfl (lit_pcs _ (.tx [47]) (.nm 0 ((O : Int) - 1) 33) _) (by (try simp only [List.length_append, List.length_cons, List.length_nil]); omega) (by unfold maxLen; (try simp only [List.length_append, List.length_cons, List.length_nil]); omega) (by rw [World.size_alloc]; have := hB2.size; omega) ?_; intro v3 w3 ho3 hg3 _; have hB3 := own_blw (OwnG.below ho2 (ballo _ _)) (balloc hB2 _) hg3 (by rw [World.size_alloc]; have := hB2.size; omega); clear hg3 y0 y1 y2 y3 m0 m1; obtain ⟨m0, m1, -, -, -, -, -, -, -, -⟩ := id ((unhide HR5).below hB3).mo))
            go_roundw
            case rel => (repeat apply Exists.intro); exact ⟨⟨X + 1, by go_num, by omega, by rw [← unhide EL]; exact ho3, hB3⟩, rfl⟩
            case measure => simp [intOf]; omega
        · have hXK : K = X := by omega
          subst hXK
          have hge : ¬ ((K : Int) < (K : Int)) := by omega
          obtain ⟨e0, e1, e2, e3⟩ := (unhide HR5).en.below hB
          go_wp2_with (at_builtin; refine wplG_push ePc rfl (.tmp 140) (.tmp 142) rfl wc.heap.size _ (lnB 2 (O : Int) (N : Int) K) rfl (OwnG.below hO (ballo _ _)) wr.heap.size 1 (.tx [10]) rfl (lit_pc _ (.tx [10]) _) (by (try simp only [List.length_append, List.length_cons, List.length_nil]); omega) (by unfold maxLen; (try simp only [List.length_append, List.length_cons, List.length_nil]); omega) (by rw [World.size_alloc]; have := hB.size; omega) ?_; intro v1 w1 ho1 hg1 _; have hB1 := own_blw (OwnG.below hO (ballo _ _)) (balloc hB _) hg1 (by rw [World.size_alloc]; have := hB.size; omega); clear hg1 e0 e1 e2 e3 m0 m1)
          have hON : OwnP w1 wc.heap.size v1 (lnR 2 K O N) := by unfold lnR; rw [Int.toNat_natCast]; exact ho1
          obtain ⟨hlR, hlR0⟩ := lnR_len 2 (O : Int) (N : Int) hK1
          obtain ⟨gl, cl, rfl, hgl, hgl2, hPR⟩ := own_row hON hlR0
          have HR6 := hide ((unhide HR5).below hB1)
          have hz6 := (unhide HR6).sz
          have hrd6 := hide (hr.below (unhide HR6).bw)
          have hB6 := hide (unhide HR6).bw
          have HM0 := hide (unhide HR6).mo
          have HZ6 := hide (unhide HR6).zr
          have HF6 := hide (unhide HR6).fz
          have hglb : w.heap.size + 1 + 1 + 1 + 1 + 1 + 1 < gl := by omega
          have HPR := hide hPR
          have HRD0 := hide hr
          clear hr hPR HR6 HR5 HM hON ho1 hO hB hB1 hS hY hkp hB0 hsB hlL hmb hX hlt hge hgl
          go_loopw [12, 18] (fun at' s wx => ∃ (S J : Nat) (L : List (Int × Int)) (vn vo : Value), s = .int .i64 (S : Int) ∧ S ≤ N ∧ at' = .int .i64 (J : Int) ∧ J ≤ b.length ∧ L.length ≤ S * 130 ∧ Hid (tk b j0 (rpR 2 K O N N) = pre L (tk b J (rpR 2 K O N (N - S)))) ∧ Mo wx (w.heap.size + 1 + 1 + 1 + 1 + 1 + 1) w1.heap.size 2 K O N vn vo (pk 32 L) (pk 33 L) ∧ w1.grownBy wx (some (w.heap.size + 1 + 1 + 1 + 1 + 1 + 1))) (fun _ s _ => N - (intOf s).toNat)
          case atStart => exact ⟨0, j0, [], _, _, rfl, Nat.zero_le _, rfl, hj0, Nat.zero_le _, hide (by rw [pre_nil, Nat.sub_zero]), unhide HM0, gx_refl _ _⟩
          case round =>
            obtain ⟨S, J, L, vn, vo, rfl, hSN, rfl, hJ, hLl, HT, hM, hG⟩ := hrel
            clear HM0
            have HMo := hide hM
            have HG := hide hG
            have hzr := hG.size
            obtain ⟨m0, m1, m2, m3, m4, m5, -, -, -, -⟩ := id hM
            have hrd := rd_gx (unhide HRD0) (unhide hrd6) hG (by omega)
            have Zr := (unhide HZ6).gx hG (by omega)
            have Fr : ∀ i, wr.frozen? ⟨w.heap.size, i, none⟩ = false := fun i => fz_gr (unhide HF6 i) hG (by omega) (by intro e; injection e; omega)
            have Br : Below w.heap.size w wr := (unhide hB6).trans (gx_bl hG (by omega) (by omega))
            have HZr := hide Zr
            have HFr := hide Fr
            have HBr := hide Br
            clear hM
            by_cases hS1 : S < N
            · have hS1' : (S : Int) < (N : Int) := by omega
              have htk := take_any (some ⟨g, off, none⟩) c b J gl cl (lnR 2 K O N) wr hrd (by omega) hJ ((unhide HPR).gx hG (by omega)) (lnR_ok _ _ _ _) (by omega)
              clear hrd hG Zr Fr Br
              cases hk : tk b J (lnR 2 K O N) with
              | error x =>
                obtain ⟨p, er⟩ := x
                have hne : 0 < er := (tk_err (lnR_errs _ _ _ _) hk).1
                have HE := hide (rv_bad (unhide HV) (rp_bad (unhide HT) hS1 hk))
                rw [hk] at htk
                unfold TkPost at htk
                clear hk
                go_wp2_with fail
                refine htk.mono ?_
                rintro e w2 ⟨rfl, hb2⟩
                have b2 := bstep (unhide HBr) hb2
                have Z2 := (unhide HZr).below hb2
                have FT : ∀ i, w2.frozen? ⟨w.heap.size, i, none⟩ = false := fun i => frz_on (unhide HFr i) hb2 (by omega)
                have hsz2 : w.heap.size < w2.heap.size := World.block_lt_of_cell? w2 _ Z2.p0
                clear htk hb2 m0 m1 m2 m3 m4 m5
                obtain ⟨z0, z1, z2, z3, z4, z5⟩ := id Z2
                have f0 := FT 0
                have f1 := FT 1
                have f2 := FT 2
                have f3 := FT 3
                have f4 := FT 4
                have f5 := FT 5
                go_wp2
                change bodyPost _ _ _ _ _ (six w2 w.heap.size mcZ none 0 none 0)
                have b3 := six_below b2 (b := w.heap.size) (by omega) mcZ none 0 none 0
                have Z3 : Box (six w2 w.heap.size mcZ none 0 none 0) _ _ _ _ _ _ := Z2.six mcZ none 0 none 0
                generalize six w2 w.heap.size mcZ none 0 none 0 = w9 at *
                obtain ⟨q0, q1, q2, q3, q4, q5⟩ := Z3
                refine bodyPost_ret (v := .tuple #[mval mcZ none 0 none 0, .int .i64 er, .int .i64 (p : Int)]) ?_ rfl ⟨none, 0, none, 0, by rw [unhide HE], by rw [unhide HE]; exact ⟨OwnL.nil _ _ _ _, OwnL.nil _ _ _ _, fun x e => by cases e⟩, b3⟩
                unfold mval
                simp [results, Tryd.results20, go_sem, q0, q1, q2, q3, q4, q5]
              | ok x =>
                obtain ⟨l, q⟩ := x
                obtain ⟨hfl, htg⟩ := ln_fit (.inr rfl) (by omega : (1 : Int) ≤ (K : Int)) (tk_was hk).1
                have hll : l.length = 2 * K := by rw [hfl]; unfold lnN; rw [if_neg (by decide), Int.toNat_natCast]
                have hq := (tk_le hJ hk).2
                have HT2 := hide (rp_ok (unhide HT) hS1 hk)
                have HTG := hide htg
                have HLL := hide hll
                rw [hk] at htk
                unfold TkPost at htk
                clear hk htg hfl HT
                go_wp2_with fail
                refine htk.mono ?_
                rintro e w2 ⟨vl, rfl, hol, hb2⟩
                obtain ⟨ga, ca, rfl, -, -, hga, hga2, -, -⟩ := hol.pos (by rw [List.length_map]; omega)
                have hMr := unhide HMo
                have HL0 : Hid (Ln w1 w2 (w.heap.size + 1 + 1 + 1 + 1 + 1 + 1) ga ca 2 K O N vn vo (pk 32 (L ++ l.take 0)) (pk 33 (L ++ l.take 0)) (l.map (·.2))) := by
                  show Ln _ _ _ _ _ _ _ _ _ _ _ _ _ _
                  rw [List.take_zero, List.append_nil]
                  exact ⟨hMr.grown (r := none) ⟨hb2.os, hb2.tape, hb2.output, hb2.size, fun i hi _ => hb2.block i hi⟩ (by intro e; cases e) (fun _ _ e => by cases e) (fun _ _ e => by cases e), hol.mono hzr, fun e => by have := (hMr.on.lt e).2; omega, fun e => by have := (hMr.oo.lt e).2; omega, gx_below (unhide HG) hb2, by omega⟩
                rw [show (l.map (·.2)).length = 2 * K by rw [List.length_map]; exact hll]
                clear m0 m1 m2 m3 m4 m5 htk hol hb2 hga hga2 hMr hll
                obtain ⟨m0, m1, m2, m3, m4, m5, -, -, -, -⟩ := id (unhide HL0).mo
                go_wp2
                clear m0 m1 m2 m3 m4 m5
                go_loopw [22] (fun i wx => ∃ (I : Nat) (un uo : Value), i = .int .i64 (I : Int) ∧ I ≤ 2 * K ∧ Ln w1 wx (w.heap.size + 1 + 1 + 1 + 1 + 1 + 1) ga ca 2 K O N un uo (pk 32 (L ++ l.take I)) (pk 33 (L ++ l.take I)) (l.map (·.2))) (fun i _ => 2 * K - (intOf i).toNat)
                case atStart => exact ⟨0, _, _, rfl, Nat.zero_le _, unhide HL0⟩
                case round =>
                  obtain ⟨I, un, uo, rfl, hI, hLn⟩ := hrel
                  clear HL0
                  have HLn := hide hLn
                  by_cases hIK : I < 2 * K
                  · have hIl : I < l.length := by have := unhide HLL; omega
                    have hIK' : (I : Int) < 2 * (K : Int) := by omega
                    have hci := hLn.at (i := I) (by rw [List.length_map]; exact hIl)
                    rw [map_at hIl] at hci
                    have htI := unhide HTG I hIl
                    have hlen3 : ∀ e, (pk e (L ++ l.take I)).length ≤ 140000 := fun e => by
                      have h1 := pk_le1 e (L ++ l.take I)
                      rw [List.length_append, List.length_take] at h1
                      have := unhide HLL
                      have : min I l.length ≤ 128 := by omega
                      have : S * 130 ≤ 1024 * 130 := Nat.mul_le_mul_right _ (by omega)
                      omega
                    by_cases hpar : I % 2 = 1
                    · have tI : tg 2 I = 33 := by unfold tg; rw [if_neg (by decide), if_pos hpar]
                      rw [tI] at htI
                      have E1 : Hid (pk 32 (L ++ l.take (I + 1)) = pk 32 (L ++ l.take I)) := pk_no1 hIl (by rw [htI]; decide)
                      have E2 : Hid (pk 33 (L ++ l.take (I + 1)) = pk 33 (L ++ l.take I) ++ [(l.getD I (0, 0)).2]) := pk_yes1 hIl htI
                      have hrem : ((I : Int) % 2 == 1) = true := by simp; omega
                      have hlA := hlen3 33
                      clear hlen3 htI tI
                      generalize pk 33 (L ++ l.take I) = A at *
                      generalize pk 32 (L ++ l.take I) = C at *
                      generalize (l.getD I (0, 0)).2 = z at *
                      obtain ⟨ao, co, rfl, -, -, -, -, -⟩ := hLn.mo.oo.shape
                      obtain ⟨m0, m1, m2, m3, m4, m5, -, -, -, -⟩ := id hLn.mo
                      have Lq := hLn.below (bstep (bdrew1 _) (ballo _ (.cells #[.int .i64 z] 3)))
                      have hq1 := hide Lq.gr.size
                      have x5 : (wr.alloc (.cells #[.int .i64 z] 3)).cell? ⟨(w.heap.size + 1 + 1 + 1 + 1 + 1 + 1), 5, none⟩ = some (.slice ao A.length co) := Lq.mo.p5
                      have hI1 : I + 1 ≤ 2 * K := by omega
                      clear hLn HLn
                      go_wp2
                      go_region_law (refine step_pushA eInt rfl (.tmp 192) (.tmp 197) rfl w1.heap.size (.slice ao A.length co) A (by rfl) Lq.mo.oo ⟨wr.heap.size, 0, none⟩ 1 [z] (by rfl) (RdL.one _ _) (by simp only [List.length_cons, List.length_nil]; omega) (by exact unhide hq1) ?_; intro v3 w3 ho3 hb3 hg3 hat3; obtain ⟨a3, c3, e3, -, -, -, -, -⟩ := ho3.shape; rw [show (A ++ [z]).length = A.length + 1 by simp] at e3; subst e3; have hK3 := Lq.keep hg3 (.inr rfl); have q5 := (hK3.1 5).trans Lq.mo.p5; have f5 := hK3.2.1 5; have HN := hide (Lq.setO ho3 hg3 hat3); clear ho3 hb3 hg3 hat3 hK3)
                      all_goals
                        go_wp2
                        go_roundw
                        case rel =>
                          have h9 := unhide HN
                          rw [← unhide E1, ← unhide E2] at h9
                          exact ⟨I + 1, un, .slice a3 (A.length + 1) c3, by go_num, hI1, h9⟩
                        case measure =>
                          clear hq1 Lq x5 q5 f5 HN
                          simp [intOf]; omega
                    · have tI : tg 2 I = 32 := by unfold tg; rw [if_neg (by decide), if_neg hpar]
                      rw [tI] at htI
                      have E1 : Hid (pk 33 (L ++ l.take (I + 1)) = pk 33 (L ++ l.take I)) := pk_no1 hIl (by rw [htI]; decide)
                      have E2 : Hid (pk 32 (L ++ l.take (I + 1)) = pk 32 (L ++ l.take I) ++ [(l.getD I (0, 0)).2]) := pk_yes1 hIl htI
                      have hrem : ((I : Int) % 2 == 1) = false := by simp; omega
                      have hlA := hlen3 32
                      clear hlen3 htI tI
                      generalize pk 32 (L ++ l.take I) = A at *
                      generalize pk 33 (L ++ l.take I) = C at *
                      generalize (l.getD I (0, 0)).2 = z at *
                      obtain ⟨ao, co, rfl, -, -, -, -, -⟩ := hLn.mo.on.shape
                      obtain ⟨m0, m1, m2, m3, m4, m5, -, -, -, -⟩ := id hLn.mo
                      have Lq := hLn.below (bstep (bdrew1 _) (ballo _ (.cells #[.int .i64 z] 3)))
                      have hq1 := hide Lq.gr.size
                      have x5 : (wr.alloc (.cells #[.int .i64 z] 3)).cell? ⟨(w.heap.size + 1 + 1 + 1 + 1 + 1 + 1), 4, none⟩ = some (.slice ao A.length co) := Lq.mo.p4
                      have hI1 : I + 1 ≤ 2 * K := by omega
                      clear hLn HLn
                      go_wp2
                      go_region_law (refine step_pushA eInt rfl (.tmp 201) (.tmp 206) rfl w1.heap.size (.slice ao A.length co) A (by rfl) Lq.mo.on ⟨wr.heap.size, 0, none⟩ 1 [z] (by rfl) (RdL.one _ _) (by simp only [List.length_cons, List.length_nil]; omega) (by exact unhide hq1) ?_; intro v3 w3 ho3 hb3 hg3 hat3; obtain ⟨a3, c3, e3, -, -, -, -, -⟩ := ho3.shape; rw [show (A ++ [z]).length = A.length + 1 by simp] at e3; subst e3; have hK3 := Lq.keep hg3 (.inl rfl); have q5 := (hK3.1 4).trans Lq.mo.p4; have f5 := hK3.2.1 4; have HN := hide (Lq.setN ho3 hg3 hat3); clear ho3 hb3 hg3 hat3 hK3)
                      all_goals
                        go_wp2
                        go_roundw
                        case rel =>
                          have h9 := unhide HN
                          rw [← unhide E1, ← unhide E2] at h9
                          exact ⟨I + 1, .slice a3 (A.length + 1) c3, uo, by go_num, hI1, h9⟩
                        case measure =>
                          clear hq1 Lq x5 q5 f5 HN
                          simp [intOf]; omega
                  · have hIe : I = 2 * K := by omega
                    subst hIe
                    have hge : ¬ (2 * (K : Int) < 2 * (K : Int)) := by omega
                    have ET : Hid (L ++ l.take (2 * K) = L ++ l) := by
                      show _ = _; rw [List.take_of_length_le (by have := unhide HLL; omega)]
                    have HLn' := hide hLn
                    clear hLn HLn
                    go_wp2
                    go_roundw
                    case rel =>
                      have h9 := unhide HLn'
                      rw [unhide ET] at h9
                      refine ⟨S + 1, q, L ++ l, un, uo, by go_num, by omega, by go_num, hq, ?_, HT2, h9.mo, h9.gr⟩
                      rw [List.length_append]; have := unhide HLL; omega
                    case measure => simp [intOf]; omega
            · have hSe : S = N := by omega
              subst hSe
              have hge : ¬ ((S : Int) < (S : Int)) := by omega
              have HT3 : Hid (tk b j0 (rpR 2 K O S S) = .ok (L, J)) := by
                show _ = _; rw [unhide HT, Nat.sub_self]; exact pre_done
              clear hrd hG HT
              by_cases hJb : J < b.length
              · have hJb' : (J : Int) < (b.length : Int) := by omega
                have HE := hide (rv_more (unhide HV) (unhide HT3) hJb)
                obtain ⟨z0, z1, z2, z3, z4, z5⟩ := id Zr
                have f0 := Fr 0
                have f1 := Fr 1
                have f2 := Fr 2
                have f3 := Fr 3
                have f4 := Fr 4
                have f5 := Fr 5
                go_wp2
                change bodyPost _ _ _ _ _ (six wr w.heap.size mcZ none 0 none 0)
                have b3 := six_below Br (b := w.heap.size) (by omega) mcZ none 0 none 0
                have Z3 : Box (six wr w.heap.size mcZ none 0 none 0) _ _ _ _ _ _ := Zr.six mcZ none 0 none 0
                generalize six wr w.heap.size mcZ none 0 none 0 = w9 at *
                obtain ⟨q0, q1, q2, q3, q4, q5⟩ := Z3
                refine bodyPost_ret (v := .tuple #[mval mcZ none 0 none 0, .int .i64 6, .int .i64 (J : Int)]) ?_ rfl ⟨none, 0, none, 0, by rw [unhide HE], by rw [unhide HE]; exact ⟨OwnL.nil _ _ _ _, OwnL.nil _ _ _ _, fun x e => by cases e⟩, b3⟩
                unfold mval
                simp [results, Tryd.results20, go_sem, q0, q1, q2, q3, q4, q5]
              · have hJb' : ¬ ((J : Int) < (b.length : Int)) := by omega
                have HE := hide (rv_ok (unhide HV) (unhide HT3) hJb)
                have hJe : (J : Int) = (b.length : Int) := by omega
                obtain ⟨-, -, -, -, -, -, -, hon, hoo, hap⟩ := unhide HMo
                obtain ⟨a1, c1, rfl, -, -, -, -, -⟩ := hon.shape
                obtain ⟨a2, c2, rfl, -, -, -, -, -⟩ := hoo.shape
                obtain ⟨z0, z1, z2, z3, z4, z5⟩ := id Zr
                have f0 := Fr 0
                have f1 := Fr 1
                have f2 := Fr 2
                have f3 := Fr 3
                have f4 := Fr 4
                have f5 := Fr 5
                go_wp2
                change bodyPost _ _ _ _ _ (six wr w.heap.size ⟨2, K, O, S, pk 32 L, pk 33 L⟩ a1 c1 a2 c2)
                have b3 := six_below Br (b := w.heap.size) (by omega) ⟨2, K, O, S, pk 32 L, pk 33 L⟩ a1 c1 a2 c2
                have Z3 : Box (six wr w.heap.size ⟨2, K, O, S, pk 32 L, pk 33 L⟩ a1 c1 a2 c2) _ _ _ _ _ _ := Zr.six ⟨2, K, O, S, pk 32 L, pk 33 L⟩ a1 c1 a2 c2
                have j1 := (hon.keep fun j e => six_heap wr ⟨2, K, O, S, pk 32 L, pk 33 L⟩ a1 c1 a2 c2 (b := w.heap.size) (by have := (hon.lt e).1; omega)).mono (B' := w.heap.size) (by omega)
                have j2 := (hoo.keep fun j e => six_heap wr ⟨2, K, O, S, pk 32 L, pk 33 L⟩ a1 c1 a2 c2 (b := w.heap.size) (by have := (hoo.lt e).1; omega)).mono (B' := w.heap.size) (by omega)
                generalize six wr w.heap.size ⟨2, K, O, S, pk 32 L, pk 33 L⟩ a1 c1 a2 c2 = w9 at *
                obtain ⟨q0, q1, q2, q3, q4, q5⟩ := Z3
                refine bodyPost_ret (v := .tuple #[mval ⟨2, K, O, S, pk 32 L, pk 33 L⟩ a1 c1 a2 c2, .int .i64 0, .int .i64 (b.length : Int)]) ?_ rfl ⟨a1, c1, a2, c2, by rw [unhide HE], by rw [unhide HE]; exact ⟨j1, j2, hap⟩, b3⟩
                unfold mval
                simp [results, Tryd.results20, go_sem, q0, q1, q2, q3, q4, q5]

end Go.Proofs.YtdnmabemollbeaaDoor
