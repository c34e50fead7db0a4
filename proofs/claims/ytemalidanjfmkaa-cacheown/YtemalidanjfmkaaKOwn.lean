/-
  The law CacheOwn, walked: it returns true, whatever comes in.
-/
import Derived.Test.YtemalidanjfmkaaNLive
import Derived.Test.YtemalidanjfmkaaKOwnM
import Derived.Test.YtemalidanjfmkaaK5
namespace Go.Proofs.Ytemalidanjfmkaa
open Go.RowKit

theorem told_get {c : Cs} {u y : List Int} (H : Int) (h : findV c u = some y) : getV { c with hits := H } u = { c with hits := H + 1 } := by
  have e : findV { c with hits := H } u = some y := h
  unfold getV; rw [e]
theorem told_find {c : Cs} {u y : List Int} (H : Int) (h : findV c u = some y) : findV { c with hits := H } u = some y := h
theorem Bx.more {X : Nat → Prop} {a b c : World} (h : Bx X a b) (k : Below a.heap.size b c) : Bx X a c :=
  ⟨k.os.trans h.os, k.tape.trans h.tape, k.output.trans h.output, Nat.le_trans h.size k.size, fun j hj hx => (k.block j hj).trans (h.block j hj hx)⟩
theorem Wds.hits {c : Cs} {L : List (List Int)} (H : Int) (h : Wds c L) : Wds { c with hits := H } L := h.like rfl rfl rfl rfl

set_option maxRecDepth 100000 in
set_option maxHeartbeats 8000000 in
theorem cacheOwn_walk (mb : Bool) (a1 : Option Addr) (c1 : Nat) (l1 : List Int) (a2 : Option Addr) (c2 : Nat) (l2 : List Int) (w : World) (h1 : ArgL .i64 8 w a1 c1 l1) (h2 : ArgL .i64 8 w a2 c2 l2) :
    Calls Try.prog 8 #[.bool mb, .slice a1 l1.length c1, .slice a2 l2.length c2] w fun e w' => e = .returned (.bool true) ∧ Below w.heap.size w w' := by
  have r1 := hide h1.rd
  have r2 := hide h2.rd
  have n1 := hide h1.nil
  have n2 := hide h2.nil
  clear h1 h2
  by_cases q0 : (l1.length : Int) > 200
  · have t0 : decide ((l1.length : Int) > 200) = true := decide_eq_true q0
    go_enter Try.func8, Try.ntmps8
    go_wp2_with (go_at_call 10; refine (live_any _).mono ?_; rintro e w9 ⟨rfl, hb9⟩)
    go_ret
    exact ⟨rfl, hb9⟩
  have t0 : decide ((l1.length : Int) > 200) = false := decide_eq_false q0
  by_cases q2 : (l2.length : Int) > 300
  · have t2 : decide ((l2.length : Int) > 300) = true := decide_eq_true q2
    go_enter Try.func8, Try.ntmps8
    go_wp2_with (go_at_call 10; refine (live_any _).mono ?_; rintro e w9 ⟨rfl, hb9⟩)
    go_ret
    exact ⟨rfl, hb9⟩
  have t2 : decide ((l2.length : Int) > 300) = false := decide_eq_false q2
  have s1 : l1.length ≤ 200 := by omega
  have s2 : l2.length ≤ 300 := by omega
  cases mb
  · have hnw := new_any 1 3 2 500 w
    go_enter Try.func8, Try.ntmps8
    go_wp2_with fail
    refine hnw.mono ?_
    rintro e w1 ⟨hb1, hor1⟩
    obtain ⟨b, g, cap, R, rfl, co1, hb, hg⟩ : ∃ b g cap R, e = .returned (.tuple #[.pointer (some ⟨b, 0, none⟩), .int .i64 0]) ∧ Co w.heap.size w1 b g cap (newV 1 3 2 500) R ∧ w.heap.size ≤ b ∧ w.heap.size ≤ g := by
      rcases hor1 with ⟨h, -⟩ | ⟨-, h⟩
      · exact absurd (by decide : newE 1 3 2 500 = 0) h
      · exact h
    have hnw2 := new_any 1 3 2 500 w1
    clear hnw hor1
    go_wp2_with fail
    refine hnw2.mono ?_
    rintro e w2 ⟨hb2, hor2⟩
    obtain ⟨b2, g2, cap2, R2, rfl, co2, hbb2, hgg2⟩ : ∃ b2 g2 cap2 R2, e = .returned (.tuple #[.pointer (some ⟨b2, 0, none⟩), .int .i64 0]) ∧ Co w1.heap.size w2 b2 g2 cap2 (newV 1 3 2 500) R2 ∧ w1.heap.size ≤ b2 ∧ w1.heap.size ≤ g2 := by
      rcases hor2 with ⟨h, -⟩ | ⟨-, h⟩
      · exact absurd (by decide : newE 1 3 2 500 = 0) h
      · exact h
    have CO1 := hide (co1.below hb2)
    have CO2 := hide co2
    have HB2 : Hid (b < w1.heap.size ∧ g < w1.heap.size ∧ w1.heap.size ≤ b2 ∧ w1.heap.size ≤ g2 ∧ w1.heap.size ≤ w2.heap.size) := ⟨co1.blt, co1.glt.2, hbb2, hgg2, hb2.size⟩
    have LOW : Hid (∀ wx, Bx (fun k => k = b ∨ k = g) w2 wx → Below w.heap.size w wx) := fun wx hx => by
      have h3 := bstep hb1 hb2
      exact h3.trans (hx.below (fun k hk => by rcases hk with q | q <;> omega) h3.size)
    have h30 := bstep hb1 hb2
    have z2 := h30.size
    have R1 := hide ((unhide r1).below h30)
    have R2' := hide ((unhide r2).below h30)
    clear hnw2 hor2 co1 co2 hb1 hb2 hbb2 hgg2 h30
    have hsum : ((0 : Int) + 0 != 0) = false := by decide
    go_wp2_with (first | (go_at_call 13; refine (num_any _ _).mono ?_; rintro e w' ⟨rfl, hw'⟩; subst w') | (at_builtin; refine wpl_pushL eInt rfl (.tmp 57) (.tmp 58) rfl w2.heap.size _ [] rfl (OwnL.lit w2 _ [] #[] (Nat.le_refl _) (by unfold maxLen; simp) rfl) a1 c1 l1 rfl ((unhide R1).below (ballo _ _)) (unhide n1) (by simp only [List.length_nil]; omega) (by simp) ?_; rw [List.nil_append]; intro v3 w3 ho3 hb3 _; have hb3' : Below w2.heap.size w2 w3 := (ballo w2 (.cells #[] 3)).trans hb3; have z3 := hb3'.size; obtain ⟨a3, c3, rfl, -, -, -, -, -⟩ := ho3.shape) | (at_builtin; refine wpl_pushL eInt rfl (.tmp 60) (.tmp 61) rfl w3.heap.size _ [] rfl (OwnL.lit w3 _ [] #[] (Nat.le_refl _) (by unfold maxLen; simp) rfl) a2 c2 l2 rfl ((unhide R2').below (bstep hb3' (ballo _ _))) (unhide n2) (by simp only [List.length_nil]; omega) (by simp) ?_; rw [List.nil_append]; intro v4 w4 ho4 hb4 _; have hb4' : Below w3.heap.size w3 w4 := (ballo w3 (.cells #[] 3)).trans hb4; have z4 := hb4'.size; obtain ⟨a4, c4, rfl, -, -, -, -, -⟩ := ho4.shape) | fail)
    have ho3' := ho3.grown hb4'
    have hb24 := bstep hb3' hb4'
    obtain ⟨xa3, xc3, xe3, -, -, -, rd3, ap3⟩ := ho3'.shape
    cases xe3
    obtain ⟨xa4, xc4, xe4, -, -, -, rd4, ap4⟩ := ho4.shape
    cases xe4
    have co4 := (unhide CO1).below hb24
    have hB2 := unhide HB2
    have hpu := put_gen a3 c3 l1 a4 c4 l2 co4 rd3 rd4 (by unfold maxLen; omega) (by unfold maxLen; omega) (fun _ x ex => by have := ap3 x ex; refine ⟨?_, ?_, ?_⟩ <;> omega) (by omega)
    have HV3 : Hid (∀ k, (Value.slice a3 l1.length c3).ownBlock = some k → w2.heap.size ≤ k ∧ k < w3.heap.size) := fun k hk => (ho3.lt hk)
    have HV4 : Hid (∀ k, (Value.slice a4 l2.length c4).ownBlock = some k → w3.heap.size ≤ k ∧ k < w4.heap.size ∧ w2.heap.size ≤ k) := fun k hk => by have := ho4.lt hk; exact ⟨this.1, this.2, by omega⟩
    have HO3 := hide ho3'
    have HO4 := hide ho4
    have HB24 := hide hb24
    clear ho3 ho3' ho4 hb3 hb3' hb4 hb4' hb24 rd3 rd4 ap3 ap4 co4 CO1
    refine hpu.mono ?_
    rintro e w5 ⟨rfl, g5, cap5, R5, co5, bx5, hg5⟩
    have BX5 : Hid (Bx (fun k => k = b ∨ k = g) w2 w5) := ((Bx.refl _ w2).more (unhide HB24)).trans bx5 fun j _ q => q
    have HBG : Hid (b < w2.heap.size ∧ (g5 < w2.heap.size ∨ w4.heap.size ≤ g5)) := ⟨by omega, by
      rcases hg5 with q | q
      · left; omega
      · right; exact q⟩
    have HO3' : Hid (OwnL .i64 3 w5 w2.heap.size (.slice a3 l1.length c3) l1) := (unhide HO3).bx bx5 fun k hk q => by
      have := unhide HV3 k hk
      rcases q with q | q <;> omega
    have HO5 : Hid (OwnL .i64 3 w5 w3.heap.size (.slice a4 l2.length c4) l2) := (unhide HO4).bx bx5 fun k hk q => by
      have := unhide HV4 k hk
      rcases q with q | q <;> omega
    have Z5 : Hid (w4.heap.size ≤ w5.heap.size) := bx5.size
    clear hpu bx5 hg5 HO3 HO4 HB24
    by_cases hz : (putV (newV 1 3 2 500) l1 l2).2 = 0
    · have HF : Hid (findV (putV (newV 1 3 2 500) l1 l2).1 l1 = some l2) := find_put rfl hz
      have HWD : Hid (Wds (putV (newV 1 3 2 500) l1 l2).1 [l1]) := wds_first (by decide) hz
      have HH0 : Hid ((putV (newV 1 3 2 500) l1 l2).1.hits = 0 ∧ (putV (newV 1 3 2 500) l1 l2).1.miss = 0) := by rw [(put_ok hz).1]; exact ⟨rfl, rfl⟩
      rw [hz]
      clear hz
      generalize (putV (newV 1 3 2 500) l1 l2).1 = C at *
      have CO5 : Hid (Co w.heap.size w5 b g5 cap5 { C with hits := 0 } R5) := by
        have h9 : { C with hits := C.hits } = C := rfl
        rw [← (unhide HH0).1, h9]; exact co5
      clear co5
      go_wp2_with (first | (go_at_call 13; refine (num_any _ _).mono ?_; rintro e w' ⟨rfl, hw'⟩; subst w'))
      go_loopw [15] (fun x wr => ∃ (i : Nat) (l : List Int), x = .int .i64 i ∧ i ≤ l1.length ∧ Hid (l.length = l1.length) ∧ Hid (OwnL .i64 3 wr w2.heap.size (.slice a3 l.length c3) l) ∧ Hid (Bx (fun k => (Value.slice a3 l1.length c3).ownBlock = some k) w5 wr)) (fun x _ => l1.length - (intOf x).toNat)
      case atStart => exact ⟨0, l1, rfl, Nat.zero_le _, hide rfl, HO3', hide (Bx.refl _ _)⟩
      case round =>
        obtain ⟨i, l, rfl, hi, HLL, HOL, HBX⟩ := hrel
        by_cases hlt : i < l1.length
        · have hlt' : (i : Int) < (l1.length : Int) := by omega
          obtain ⟨gg, cg, eg, -, -, -, -, hcg, hfg⟩ := (unhide HOL).pos (by rw [unhide HLL]; omega)
          cases eg
          have k0 := hcg i (by rw [unhide HLL]; exact hlt)
          have k1 := hfg i
          have HOS := hide ((unhide HOL).store i 9)
          clear hcg hfg
          go_wp2
          go_roundw
          case rel => exact ⟨i + 1, l.set i 9, by go_num, by omega, hide (by rw [List.length_set]; exact unhide HLL), hide (by rw [List.length_set]; exact unhide HOS), hide ((unhide HBX).setCell (p := ⟨gg, i, none⟩) rfl _)⟩
          case measure => simp [intOf]; omega
        · have hlt' : ¬ (i : Int) < (l1.length : Int) := by omega
          clear HOL HLL hlt
          obtain ⟨w6, hw6⟩ : ∃ w6, w6 = wr := ⟨_, rfl⟩
          subst hw6
          have BX6 : Hid (Bx (fun k => k = b ∨ k = g) w2 w6) := (unhide BX5).trans (unhide HBX) fun j hj q => by have := unhide HV3 j q; omega
          have CO6 : Hid (Co w.heap.size w6 b g5 cap5 { C with hits := 0 } R5) := (unhide CO5).bx (unhide HBX) (fun q => by have := unhide HV3 b q; have := unhide HBG; omega) (fun q => by have := unhide HV3 g5 q; have := unhide HBG; omega)
          clear CO5
          have HO6 : Hid (OwnL .i64 3 w6 w3.heap.size (.slice a4 l2.length c4) l2) := (unhide HO5).bx (unhide HBX) fun k hk q => by
            have := unhide HV3 k q
            have := ((unhide HO5).lt hk).1
            omega
          clear HBX HO5 BX5
          go_wp2
          go_loopw [16] (fun x wr => ∃ (i : Nat) (l : List Int), x = .int .i64 i ∧ i ≤ l2.length ∧ Hid (l.length = l2.length) ∧ Hid (OwnL .i64 3 wr w3.heap.size (.slice a4 l.length c4) l) ∧ Hid (Bx (fun k => (Value.slice a4 l2.length c4).ownBlock = some k) w6 wr)) (fun x _ => l2.length - (intOf x).toNat)
          case atStart => exact ⟨0, l2, rfl, Nat.zero_le _, hide rfl, HO6, hide (Bx.refl _ _)⟩
          case round =>
            obtain ⟨i, l, rfl, hi, HLL, HOL, HBX⟩ := hrel
            by_cases hlt : i < l2.length
            · have hlt' : (i : Int) < (l2.length : Int) := by omega
              obtain ⟨gg, cg, eg, -, -, -, -, hcg, hfg⟩ := (unhide HOL).pos (by rw [unhide HLL]; omega)
              cases eg
              have k0 := hcg i (by rw [unhide HLL]; exact hlt)
              have k1 := hfg i
              have HOS := hide ((unhide HOL).store i 9)
              clear hcg hfg
              go_wp2
              go_roundw
              case rel => exact ⟨i + 1, l.set i 9, by go_num, by omega, hide (by rw [List.length_set]; exact unhide HLL), hide (by rw [List.length_set]; exact unhide HOS), hide ((unhide HBX).setCell (p := ⟨gg, i, none⟩) rfl _)⟩
              case measure => simp [intOf]; omega
            · have hlt' : ¬ (i : Int) < (l2.length : Int) := by omega
              clear HOL HLL hlt
              obtain ⟨w7, hw7⟩ : ∃ w7, w7 = wr := ⟨_, rfl⟩
              subst hw7
              have BX7 : Hid (Bx (fun k => k = b ∨ k = g) w2 w7) := ((unhide BX6).trans (unhide HBX) fun j hj q => by have := unhide HV4 j q; omega)
              have CO7 : Hid (Co w.heap.size w7 b g5 cap5 { C with hits := 0 } R5) := (unhide CO6).bx (unhide HBX) (fun q => by have := unhide HV4 b q; have := unhide HBG; omega) (fun q => by have := unhide HV4 g5 q; have := unhide HBG; omega)
              have hgt := get_any a1 c1 l1 (unhide CO7) ((unhide r1).below (unhide LOW w7 (unhide BX7))) (by omega) (by show (0 : Int) ≤ 0; decide) (by show (0 : Int) ≤ 1000000000; decide) (by show 0 ≤ C.miss; rw [(unhide HH0).2]; decide) (by show C.miss ≤ 1000000000; rw [(unhide HH0).2]; decide)
              have HB7 := hide (show b < w7.heap.size ∧ g5 < w7.heap.size from ⟨(unhide CO7).blt, (unhide CO7).glt.2⟩)
              have ZB7 : Hid (w2.heap.size ≤ w7.heap.size) := (unhide BX7).size
              have HBB : Hid (w.heap.size ≤ b) := (unhide CO7).bB
              clear HBX CO6 BX6
              go_wp2_with fail
              refine hgt.mono ?_
              rintro e w8 ⟨co8, bx8, v8, rfl, ho8⟩
              rw [told_get 0 (unhide HF)] at co8
              rw [told_find 0 (unhide HF)] at ho8 ⊢
              obtain ⟨a8, d8, rfl, -, -, -, rd8, ap8⟩ := OwnL.shape (l := l2) ho8
              have BX8 : Hid (Bx (fun k => k = b ∨ k = g) w2 w8) := (unhide BX7).trans bx8 fun j _ q => .inl q
              have HO8 : Hid (OwnL .i64 3 w8 w7.heap.size (.slice a8 l2.length d8) l2) := ho8
              have CO8 := hide co8
              have Z8 := hide bx8.size
              clear hgt bx8 ho8 co8 CO7 BX7 rd8 ap8
              have hgt := get_any a1 c1 l1 (unhide CO8) ((unhide r1).below (unhide LOW w8 (unhide BX8))) (by omega) (by show (0 : Int) ≤ 0 + 1; decide) (by show (0 + 1 : Int) ≤ 1000000000; decide) (by show 0 ≤ C.miss; rw [(unhide HH0).2]; decide) (by show C.miss ≤ 1000000000; rw [(unhide HH0).2]; decide)
              go_wp2_with fail
              refine hgt.mono ?_
              rintro e w9 ⟨co9, bx9, v9, rfl, ho9⟩
              rw [told_get (0 + 1) (unhide HF)] at co9
              rw [told_find (0 + 1) (unhide HF)] at ho9 ⊢
              obtain ⟨a9, d9, rfl, -, -, -, rd9, ap9⟩ := OwnL.shape (l := l2) ho9
              have BX9 : Hid (Bx (fun k => k = b ∨ k = g) w2 w9) := (unhide BX8).trans bx9 fun j _ q => .inl q
              have HO9 : Hid (OwnL .i64 3 w9 w8.heap.size (.slice a9 l2.length d9) l2) := ho9
              have HO8' : Hid (OwnL .i64 3 w9 w7.heap.size (.slice a8 l2.length d8) l2) := (unhide HO8).bx bx9 fun k hk q => by
                have h3 := ((unhide HO8).lt hk).1
                have h4 := (unhide HB7).1
                have h5 : k = b := q
                omega
              have HL8 : Hid (∀ k, (Value.slice a8 l2.length d8).ownBlock = some k → k < w8.heap.size) := fun k hk => ((unhide HO8).lt hk).2
              have CO9 := hide co9
              have Z9 := hide bx9.size
              clear hgt bx9 ho9 co9 CO8 BX8 rd9 ap9 HO8
              obtain ⟨xa8, xc8, x8, -, -, -, rd8, -⟩ := (unhide HO8').shape
              cases x8
              have hsm := same_list a8 a2 d8 c2 l2 l2 w9 rd8 ((unhide r2).below (unhide LOW w9 (unhide BX9))) (by unfold maxLen; omega)
              rw [decide_eq_true rfl] at hsm
              have HAP : Hid (∀ w10, Below w9.heap.size w9 w10 → Calls Try.prog 31 #[.slice (some ⟨w10.heap.size, 0, none⟩) 2 2] (w10.alloc (.cells #[.slice a8 l2.length d8, .slice a9 l2.length d9] 29)) fun e w' => e = .returned (.bool true) ∧ Below w7.heap.size (w10.alloc (.cells #[.slice a8 l2.length d8, .slice a9 l2.length d9] 29)) w') := fun w10 h10 => by
                have z1 := unhide Z8
                have z2 := unhide Z9
                have z3 := h10.size
                have hx := bstep h10 (ballo w10 (.cells #[.slice a8 l2.length d8, .slice a9 l2.length d9] 29))
                have p0 := (unhide HO8').grown hx
                have p1 := (unhide HO9).grown hx
                refine apart_any w7.heap.size 2 _ (twoV (.slice a8 l2.length d8) (.slice a9 l2.length d9)) _ _ _ (OwnV.two w10 _ _ _ (by omega)) (Fam.two p0 (p1.mono z1) (unhide HL8) (fun k hk => (p1.lt hk).1)) (fun k hk i hi e2 => ?_) (by simp; omega) (by omega) (fun i hi => ?_)
                · obtain rfl : w10.heap.size = k := Option.some.inj hk
                  have q9 := unhide HO9
                  have q8 := unhide HO8'
                  unfold twoV at e2
                  by_cases c : i = 0
                  · rw [if_pos c] at e2; have := (q8.lt e2).2; omega
                  · rw [if_neg c] at e2; have := (q9.lt e2).2; omega
                · show (if i = 0 then l2 else l2).length ≤ 100000
                  split <;> omega
              clear rd8 HO9 HO8' HL8
              go_wp2_with (first | (go_at_call 19; refine hsm.mono ?_; rintro e w10 ⟨rfl, hb10⟩) | (go_at_call 31; refine (unhide HAP w10 hb10).mono ?_; rintro e w11 ⟨rfl, hb11⟩) | fail)
              have CO11 : Hid (Co w.heap.size w11 b g5 cap5 { C with hits := 0 + 1 + 1 } R5) := ((unhide CO9).below (bstep hb10 (ballo _ _))).low hb11 (unhide HB7).1 (unhide HB7).2
              have BX11 : Hid (Bx (fun k => k = b ∨ k = g) w2 w11) := (((unhide BX9).more (hb10.mono (unhide BX9).size)).alloc _).more (hb11.mono (by have := unhide ZB7; omega))
              have HB11 : Hid (b < w11.heap.size ∧ g5 < w11.heap.size) := ⟨(unhide CO11).blt, (unhide CO11).glt.2⟩
              clear hsm HAP hb10 hb11 CO9 BX9
              have hwd := words_any (unhide CO11)
              refine hwd.mono ?_
              rintro e w12 ⟨v12, us12, L12, rfl, hW12, hLL12, hb12, -, -⟩
              obtain rfl := (Wds.hits _ (unhide HWD)).one hW12
              obtain ⟨a12, d12, rfl, -⟩ := hLL12.rdx
              have hwd := words_any ((unhide CO11).below hb12)
              have HLL12 := hide hLL12
              have HB12 := hide hb12
              clear hW12 hLL12 hb12
              go_wp2_with fail
              refine hwd.mono ?_
              rintro e w13 ⟨v13, us13, L13, rfl, hW13, hLL13, hb13, -, -⟩
              obtain rfl := (Wds.hits _ (unhide HWD)).one hW13
              obtain ⟨a13, d13, rfl, hrv13⟩ := hLL13.rdx
              have HLL13 := hide hLL13
              have HB13 := hide hb13
              cases a13 with
              | none =>
                exfalso
                obtain ⟨x1, x2, e13, x3, -, -⟩ := hLL13.out.shape
                cases e13
                have := (x3 rfl).1
                simp at this
              | some ad13 =>
              have hsl : ∀ i, i < 1 → ∃ a k c, us13 i = .slice a k c := fun i hi => hLL13.fam.slices i hi
              have z12 := (unhide HB12).size
              have z13 := hb13.size
              have hsh12 : ∀ (l : Nat), l = [l1].length → l = 1 := fun l h => h
              clear hW13 hLL13 hb13 hwd
              go_wp2_with (first | (at_builtin; refine wplV_app4 (by rfl) (.tmp 115) (.tmp 117) rfl w11.heap.size _ 1 us12 rfl (((unhide HLL12).out).below (unhide HB13)) ad13 1 d13 us13 rfl hrv13 hsl (by omega) (by omega) ?_; intro v14 w14 ho14 hg14 hv14; obtain ⟨a14, d14, rfl, -, -, -⟩ := ho14.shape) | fail)
              have hcat := LLs.cat ((unhide HLL12).below (unhide HB13)) (unhide HLL13) z12 (fun i hi k hk => (((unhide HLL12).fam.own i hi).lt hk).2) (fun k hk => ((unhide HLL12).out.lt hk).2) hg14 hv14
              have hap := apart_any w11.heap.size 2 (.slice a14 2 d14) (joinV 1 us12 us13) _ _ w14 ho14 hcat.1 hcat.2 (by have := hg14.size; omega) (by omega) (fun i hi => by
                by_cases c : i < [l1].length
                · rw [if_pos c]
                  have : i = 0 := by simpa using c
                  subst this
                  show l1.length ≤ _
                  omega
                · rw [if_neg c]
                  have : i - [l1].length = 0 := by simp at c ⊢; omega
                  rw [this]
                  show l1.length ≤ _
                  omega)
              have hb14 : Below w11.heap.size w13 w14 := (Below.refl _ w13).grown hg14 (by omega) fun k hk => ((unhide HLL12).out.lt hk).1
              refine hap.mono ?_
              rintro e w15 ⟨rfl, hb15⟩
              have CO15 : Hid (Co w.heap.size w15 b g5 cap5 { C with hits := 0 + 1 + 1 } R5) := ((((unhide CO11).below (unhide HB12)).below (unhide HB13)).low hb14 (unhide HB11).1 (unhide HB11).2).low hb15 (unhide HB11).1 (unhide HB11).2
              have ZB11 := (unhide BX11).size
              have BX15 : Hid (Bx (fun k => k = b ∨ k = g) w2 w15) := ((((unhide BX11).more ((unhide HB12).mono ZB11)).more ((unhide HB13).mono (by omega))).more (hb14.mono ZB11)).more (hb15.mono ZB11)
              clear hcat hap hb14 hb15 hg14 hv14 ho14 HLL12 HLL13 HB12 HB13 CO11 BX11 hrv13 hsl z12 z13 hsh12 ZB11
              have hgt := get_any a1 c1 l1 (unhide CO15) ((unhide r1).below (unhide LOW w15 (unhide BX15))) (by omega) (by show (0 : Int) ≤ 0 + 1 + 1; decide) (by show (0 + 1 + 1 : Int) ≤ 1000000000; decide) (by show 0 ≤ C.miss; rw [(unhide HH0).2]; decide) (by show C.miss ≤ 1000000000; rw [(unhide HH0).2]; decide)
              go_wp2_with fail
              refine hgt.mono ?_
              rintro e w16 ⟨co16, bx16, v16, rfl, ho16⟩
              rw [told_get (0 + 1 + 1) (unhide HF)] at co16
              rw [told_find (0 + 1 + 1) (unhide HF)] at ho16 ⊢
              obtain ⟨a16, d16, rfl, -, -, -, rd16, -⟩ := OwnL.shape (l := l2) ho16
              have BX16 : Hid (Bx (fun k => k = b ∨ k = g) w2 w16) := (unhide BX15).trans bx16 fun j _ q => .inl q
              have hsm := same_list a16 a2 d16 c2 l2 l2 w16 rd16 ((unhide r2).below (unhide LOW w16 (unhide BX16))) (by unfold maxLen; omega)
              rw [decide_eq_true rfl] at hsm
              have CO16 := hide co16
              clear hgt co16 bx16 ho16 rd16 CO15 BX15
              go_wp2_with (first | (go_at_call 19; refine hsm.mono ?_; rintro e w17 ⟨rfl, hb17⟩) | fail)
              have hwd := words_any ((unhide CO16).below hb17)
              refine hwd.mono ?_
              rintro e w18 ⟨v18, us18, L18, rfl, hW18, hLL18, hb18, -, -⟩
              obtain rfl := (Wds.hits _ (unhide HWD)).one hW18
              obtain ⟨a18, d18, rfl, hrv18⟩ := hLL18.rdx
              have BX18 : Hid (Bx (fun k => k = b ∨ k = g) w2 (w18.alloc (.cells #[.slice a1 l1.length c1] 29))) := ((unhide BX16).more ((bstep hb17 hb18).mono (unhide BX16).size)).alloc _
              have hli := lists_any a18 (some ⟨w18.heap.size, 0, none⟩) 1 d18 1 us18 (fun _ => .slice a1 l1.length c1) (fun _ => l1.length) (fun _ j => l1.getD j 0) (w18.alloc (.cells #[.slice a1 l1.length c1] 29)) (hrv18.below (ballo _ _)) (RdV.lit w18 1 (fun _ => .slice a1 l1.length c1) _ (by unfold maxLen; omega) (by simp [cellsV])) (by unfold maxLen; omega) (fun i hi => by
                obtain rfl : i = 0 := by omega
                obtain ⟨x1, x2, x3, -, -, x4, -⟩ := (hLL18.fam.own 0 (by simp)).shape
                exact ⟨x1, x2, a1, c1, x3, x4.below (ballo _ _), rfl, (unhide r1).below (unhide LOW _ (unhide BX18)), by unfold maxLen; omega⟩)
              have HNO : Hid (∀ w19, Below (w18.alloc (.cells #[.slice a1 l1.length c1] 29)).heap.size (w18.alloc (.cells #[.slice a1 l1.length c1] 29)) w19 → Calls Try.prog 21 #[.pointer (some ⟨b2, 0, none⟩)] w19 fun e w' => e = .returned (.int .i64 1) ∧ w' = w19) := fun w19 h19 => by
                have := nodes_any (((unhide CO2).bx (unhide BX18) (by have := unhide HB2; rintro (q | q) <;> omega) (by have := unhide HB2; rintro (q | q) <;> omega)).below h19)
                exact this
              have HL18 := hide (unhide LOW _ (unhide BX18))
              clear hwd hW18 hLL18 hrv18 hsm CO16 BX16 BX18 hb17 hb18 CO2
              go_wp2_with (first | (go_at_call 25; refine hli.mono ?_; rintro e w19 ⟨rfl, hb19⟩) | (go_at_call 21; refine (unhide HNO w19 hb19).mono ?_; rintro e w' ⟨rfl, hw'⟩; subst w') | (go_at_call 10; refine (live_any _).mono ?_; rintro e w9 ⟨rfl, hb9⟩))
              go_ret
              exact ⟨rfl, bstep (bstep (unhide HL18) hb19) hb9⟩
    · have t9 : ((putV (newV 1 3 2 500) l1 l2).2 == 0) = false := beq_eq_false_iff_ne.2 hz
      generalize (putV (newV 1 3 2 500) l1 l2).2 = E at *
      clear hz co5
      go_wp2_with (first | (go_at_call 13; refine (num_any _ _).mono ?_; rintro e w' ⟨rfl, hw'⟩; subst w'))
      go_loopw [15] (fun x wr => ∃ (i : Nat) (l : List Int), x = .int .i64 i ∧ i ≤ l1.length ∧ Hid (l.length = l1.length) ∧ Hid (OwnL .i64 3 wr w2.heap.size (.slice a3 l.length c3) l) ∧ Hid (Bx (fun k => (Value.slice a3 l1.length c3).ownBlock = some k) w5 wr)) (fun x _ => l1.length - (intOf x).toNat)
      case atStart => exact ⟨0, l1, rfl, Nat.zero_le _, hide rfl, HO3', hide (Bx.refl _ _)⟩
      case round =>
        obtain ⟨i, l, rfl, hi, HLL, HOL, HBX⟩ := hrel
        by_cases hlt : i < l1.length
        · have hlt' : (i : Int) < (l1.length : Int) := by omega
          obtain ⟨gg, cg, eg, -, -, -, -, hcg, hfg⟩ := (unhide HOL).pos (by rw [unhide HLL]; omega)
          cases eg
          have k0 := hcg i (by rw [unhide HLL]; exact hlt)
          have k1 := hfg i
          have HOS := hide ((unhide HOL).store i 9)
          clear hcg hfg
          go_wp2
          go_roundw
          case rel => exact ⟨i + 1, l.set i 9, by go_num, by omega, hide (by rw [List.length_set]; exact unhide HLL), hide (by rw [List.length_set]; exact unhide HOS), hide ((unhide HBX).setCell (p := ⟨gg, i, none⟩) rfl _)⟩
          case measure => simp [intOf]; omega
        · have hlt' : ¬ (i : Int) < (l1.length : Int) := by omega
          clear HOL HLL hlt
          obtain ⟨w6, hw6⟩ : ∃ w6, w6 = wr := ⟨_, rfl⟩
          subst hw6
          have BX6 : Hid (Bx (fun k => k = b ∨ k = g) w2 w6) := (unhide BX5).trans (unhide HBX) fun j hj q => by have := unhide HV3 j q; omega
          have HO6 : Hid (OwnL .i64 3 w6 w3.heap.size (.slice a4 l2.length c4) l2) := (unhide HO5).bx (unhide HBX) fun k hk q => by
            have := unhide HV3 k q
            have := ((unhide HO5).lt hk).1
            omega
          clear HBX HO5 BX5
          go_wp2
          go_loopw [16] (fun x wr => ∃ (i : Nat) (l : List Int), x = .int .i64 i ∧ i ≤ l2.length ∧ Hid (l.length = l2.length) ∧ Hid (OwnL .i64 3 wr w3.heap.size (.slice a4 l.length c4) l) ∧ Hid (Bx (fun k => (Value.slice a4 l2.length c4).ownBlock = some k) w6 wr)) (fun x _ => l2.length - (intOf x).toNat)
          case atStart => exact ⟨0, l2, rfl, Nat.zero_le _, hide rfl, HO6, hide (Bx.refl _ _)⟩
          case round =>
            obtain ⟨i, l, rfl, hi, HLL, HOL, HBX⟩ := hrel
            by_cases hlt : i < l2.length
            · have hlt' : (i : Int) < (l2.length : Int) := by omega
              obtain ⟨gg, cg, eg, -, -, -, -, hcg, hfg⟩ := (unhide HOL).pos (by rw [unhide HLL]; omega)
              cases eg
              have k0 := hcg i (by rw [unhide HLL]; exact hlt)
              have k1 := hfg i
              have HOS := hide ((unhide HOL).store i 9)
              clear hcg hfg
              go_wp2
              go_roundw
              case rel => exact ⟨i + 1, l.set i 9, by go_num, by omega, hide (by rw [List.length_set]; exact unhide HLL), hide (by rw [List.length_set]; exact unhide HOS), hide ((unhide HBX).setCell (p := ⟨gg, i, none⟩) rfl _)⟩
              case measure => simp [intOf]; omega
            · have hlt' : ¬ (i : Int) < (l2.length : Int) := by omega
              clear HOL HLL hlt
              obtain ⟨w7, hw7⟩ : ∃ w7, w7 = wr := ⟨_, rfl⟩
              subst hw7
              have BX7 : Hid (Bx (fun k => k = b ∨ k = g) w2 w7) := ((unhide BX6).trans (unhide HBX) fun j hj q => by have := unhide HV4 j q; omega)
              clear HBX
              go_wp2_with (first | (go_at_call 10; refine (live_any _).mono ?_; rintro e w9 ⟨rfl, hb9⟩))
              go_ret
              exact ⟨rfl, bstep (unhide LOW w7 (unhide BX7)) hb9⟩
  · have hnw := new_any 2 3 2 500 w
    go_enter Try.func8, Try.ntmps8
    go_wp2_with fail
    refine hnw.mono ?_
    rintro e w1 ⟨hb1, hor1⟩
    obtain ⟨b, g, cap, R, rfl, co1, hb, hg⟩ : ∃ b g cap R, e = .returned (.tuple #[.pointer (some ⟨b, 0, none⟩), .int .i64 0]) ∧ Co w.heap.size w1 b g cap (newV 2 3 2 500) R ∧ w.heap.size ≤ b ∧ w.heap.size ≤ g := by
      rcases hor1 with ⟨h, -⟩ | ⟨-, h⟩
      · exact absurd (by decide : newE 2 3 2 500 = 0) h
      · exact h
    have hnw2 := new_any 2 3 2 500 w1
    clear hnw hor1
    go_wp2_with fail
    refine hnw2.mono ?_
    rintro e w2 ⟨hb2, hor2⟩
    obtain ⟨b2, g2, cap2, R2, rfl, co2, hbb2, hgg2⟩ : ∃ b2 g2 cap2 R2, e = .returned (.tuple #[.pointer (some ⟨b2, 0, none⟩), .int .i64 0]) ∧ Co w1.heap.size w2 b2 g2 cap2 (newV 2 3 2 500) R2 ∧ w1.heap.size ≤ b2 ∧ w1.heap.size ≤ g2 := by
      rcases hor2 with ⟨h, -⟩ | ⟨-, h⟩
      · exact absurd (by decide : newE 2 3 2 500 = 0) h
      · exact h
    have CO1 := hide (co1.below hb2)
    have CO2 := hide co2
    have HB2 : Hid (b < w1.heap.size ∧ g < w1.heap.size ∧ w1.heap.size ≤ b2 ∧ w1.heap.size ≤ g2 ∧ w1.heap.size ≤ w2.heap.size) := ⟨co1.blt, co1.glt.2, hbb2, hgg2, hb2.size⟩
    have LOW : Hid (∀ wx, Bx (fun k => k = b ∨ k = g) w2 wx → Below w.heap.size w wx) := fun wx hx => by
      have h3 := bstep hb1 hb2
      exact h3.trans (hx.below (fun k hk => by rcases hk with q | q <;> omega) h3.size)
    have h30 := bstep hb1 hb2
    have z2 := h30.size
    have R1 := hide ((unhide r1).below h30)
    have R2' := hide ((unhide r2).below h30)
    clear hnw2 hor2 co1 co2 hb1 hb2 hbb2 hgg2 h30
    have hsum : ((0 : Int) + 0 != 0) = false := by decide
    go_wp2_with (first | (go_at_call 13; refine (num_any _ _).mono ?_; rintro e w' ⟨rfl, hw'⟩; subst w') | (at_builtin; refine wpl_pushL eInt rfl (.tmp 57) (.tmp 58) rfl w2.heap.size _ [] rfl (OwnL.lit w2 _ [] #[] (Nat.le_refl _) (by unfold maxLen; simp) rfl) a1 c1 l1 rfl ((unhide R1).below (ballo _ _)) (unhide n1) (by simp only [List.length_nil]; omega) (by simp) ?_; rw [List.nil_append]; intro v3 w3 ho3 hb3 _; have hb3' : Below w2.heap.size w2 w3 := (ballo w2 (.cells #[] 3)).trans hb3; have z3 := hb3'.size; obtain ⟨a3, c3, rfl, -, -, -, -, -⟩ := ho3.shape) | (at_builtin; refine wpl_pushL eInt rfl (.tmp 60) (.tmp 61) rfl w3.heap.size _ [] rfl (OwnL.lit w3 _ [] #[] (Nat.le_refl _) (by unfold maxLen; simp) rfl) a2 c2 l2 rfl ((unhide R2').below (bstep hb3' (ballo _ _))) (unhide n2) (by simp only [List.length_nil]; omega) (by simp) ?_; rw [List.nil_append]; intro v4 w4 ho4 hb4 _; have hb4' : Below w3.heap.size w3 w4 := (ballo w3 (.cells #[] 3)).trans hb4; have z4 := hb4'.size; obtain ⟨a4, c4, rfl, -, -, -, -, -⟩ := ho4.shape) | fail)
    have ho3' := ho3.grown hb4'
    have hb24 := bstep hb3' hb4'
    obtain ⟨xa3, xc3, xe3, -, -, -, rd3, ap3⟩ := ho3'.shape
    cases xe3
    obtain ⟨xa4, xc4, xe4, -, -, -, rd4, ap4⟩ := ho4.shape
    cases xe4
    have co4 := (unhide CO1).below hb24
    have hB2 := unhide HB2
    have hpu := put_gen a3 c3 l1 a4 c4 l2 co4 rd3 rd4 (by unfold maxLen; omega) (by unfold maxLen; omega) (fun _ x ex => by have := ap3 x ex; refine ⟨?_, ?_, ?_⟩ <;> omega) (by omega)
    have HV3 : Hid (∀ k, (Value.slice a3 l1.length c3).ownBlock = some k → w2.heap.size ≤ k ∧ k < w3.heap.size) := fun k hk => (ho3.lt hk)
    have HV4 : Hid (∀ k, (Value.slice a4 l2.length c4).ownBlock = some k → w3.heap.size ≤ k ∧ k < w4.heap.size ∧ w2.heap.size ≤ k) := fun k hk => by have := ho4.lt hk; exact ⟨this.1, this.2, by omega⟩
    have HO3 := hide ho3'
    have HO4 := hide ho4
    have HB24 := hide hb24
    clear ho3 ho3' ho4 hb3 hb3' hb4 hb4' hb24 rd3 rd4 ap3 ap4 co4 CO1
    refine hpu.mono ?_
    rintro e w5 ⟨rfl, g5, cap5, R5, co5, bx5, hg5⟩
    have BX5 : Hid (Bx (fun k => k = b ∨ k = g) w2 w5) := ((Bx.refl _ w2).more (unhide HB24)).trans bx5 fun j _ q => q
    have HBG : Hid (b < w2.heap.size ∧ (g5 < w2.heap.size ∨ w4.heap.size ≤ g5)) := ⟨by omega, by
      rcases hg5 with q | q
      · left; omega
      · right; exact q⟩
    have HO3' : Hid (OwnL .i64 3 w5 w2.heap.size (.slice a3 l1.length c3) l1) := (unhide HO3).bx bx5 fun k hk q => by
      have := unhide HV3 k hk
      rcases q with q | q <;> omega
    have HO5 : Hid (OwnL .i64 3 w5 w3.heap.size (.slice a4 l2.length c4) l2) := (unhide HO4).bx bx5 fun k hk q => by
      have := unhide HV4 k hk
      rcases q with q | q <;> omega
    have Z5 : Hid (w4.heap.size ≤ w5.heap.size) := bx5.size
    clear hpu bx5 hg5 HO3 HO4 HB24
    by_cases hz : (putV (newV 2 3 2 500) l1 l2).2 = 0
    · have HF : Hid (findV (putV (newV 2 3 2 500) l1 l2).1 l1 = some l2) := find_put rfl hz
      have HWD : Hid (Wds (putV (newV 2 3 2 500) l1 l2).1 [l1]) := wds_first (by decide) hz
      have HH0 : Hid ((putV (newV 2 3 2 500) l1 l2).1.hits = 0 ∧ (putV (newV 2 3 2 500) l1 l2).1.miss = 0) := by rw [(put_ok hz).1]; exact ⟨rfl, rfl⟩
      rw [hz]
      clear hz
      generalize (putV (newV 2 3 2 500) l1 l2).1 = C at *
      have CO5 : Hid (Co w.heap.size w5 b g5 cap5 { C with hits := 0 } R5) := by
        have h9 : { C with hits := C.hits } = C := rfl
        rw [← (unhide HH0).1, h9]; exact co5
      clear co5
      go_wp2_with (first | (go_at_call 13; refine (num_any _ _).mono ?_; rintro e w' ⟨rfl, hw'⟩; subst w'))
      go_loopw [15] (fun x wr => ∃ (i : Nat) (l : List Int), x = .int .i64 i ∧ i ≤ l1.length ∧ Hid (l.length = l1.length) ∧ Hid (OwnL .i64 3 wr w2.heap.size (.slice a3 l.length c3) l) ∧ Hid (Bx (fun k => (Value.slice a3 l1.length c3).ownBlock = some k) w5 wr)) (fun x _ => l1.length - (intOf x).toNat)
      case atStart => exact ⟨0, l1, rfl, Nat.zero_le _, hide rfl, HO3', hide (Bx.refl _ _)⟩
      case round =>
        obtain ⟨i, l, rfl, hi, HLL, HOL, HBX⟩ := hrel
        by_cases hlt : i < l1.length
        · have hlt' : (i : Int) < (l1.length : Int) := by omega
          obtain ⟨gg, cg, eg, -, -, -, -, hcg, hfg⟩ := (unhide HOL).pos (by rw [unhide HLL]; omega)
          cases eg
          have k0 := hcg i (by rw [unhide HLL]; exact hlt)
          have k1 := hfg i
          have HOS := hide ((unhide HOL).store i 9)
          clear hcg hfg
          go_wp2
          go_roundw
          case rel => exact ⟨i + 1, l.set i 9, by go_num, by omega, hide (by rw [List.length_set]; exact unhide HLL), hide (by rw [List.length_set]; exact unhide HOS), hide ((unhide HBX).setCell (p := ⟨gg, i, none⟩) rfl _)⟩
          case measure => simp [intOf]; omega
        · have hlt' : ¬ (i : Int) < (l1.length : Int) := by omega
          clear HOL HLL hlt
          obtain ⟨w6, hw6⟩ : ∃ w6, w6 = wr := ⟨_, rfl⟩
          subst hw6
          have BX6 : Hid (Bx (fun k => k = b ∨ k = g) w2 w6) := (unhide BX5).trans (unhide HBX) fun j hj q => by have := unhide HV3 j q; omega
          have CO6 : Hid (Co w.heap.size w6 b g5 cap5 { C with hits := 0 } R5) := (unhide CO5).bx (unhide HBX) (fun q => by have := unhide HV3 b q; have := unhide HBG; omega) (fun q => by have := unhide HV3 g5 q; have := unhide HBG; omega)
          clear CO5
          have HO6 : Hid (OwnL .i64 3 w6 w3.heap.size (.slice a4 l2.length c4) l2) := (unhide HO5).bx (unhide HBX) fun k hk q => by
            have := unhide HV3 k q
            have := ((unhide HO5).lt hk).1
            omega
          clear HBX HO5 BX5
          go_wp2
          go_loopw [16] (fun x wr => ∃ (i : Nat) (l : List Int), x = .int .i64 i ∧ i ≤ l2.length ∧ Hid (l.length = l2.length) ∧ Hid (OwnL .i64 3 wr w3.heap.size (.slice a4 l.length c4) l) ∧ Hid (Bx (fun k => (Value.slice a4 l2.length c4).ownBlock = some k) w6 wr)) (fun x _ => l2.length - (intOf x).toNat)
          case atStart => exact ⟨0, l2, rfl, Nat.zero_le _, hide rfl, HO6, hide (Bx.refl _ _)⟩
          case round =>
            obtain ⟨i, l, rfl, hi, HLL, HOL, HBX⟩ := hrel
            by_cases hlt : i < l2.length
            · have hlt' : (i : Int) < (l2.length : Int) := by omega
              obtain ⟨gg, cg, eg, -, -, -, -, hcg, hfg⟩ := (unhide HOL).pos (by rw [unhide HLL]; omega)
              cases eg
              have k0 := hcg i (by rw [unhide HLL]; exact hlt)
              have k1 := hfg i
              have HOS := hide ((unhide HOL).store i 9)
              clear hcg hfg
              go_wp2
              go_roundw
              case rel => exact ⟨i + 1, l.set i 9, by go_num, by omega, hide (by rw [List.length_set]; exact unhide HLL), hide (by rw [List.length_set]; exact unhide HOS), hide ((unhide HBX).setCell (p := ⟨gg, i, none⟩) rfl _)⟩
              case measure => simp [intOf]; omega
            · have hlt' : ¬ (i : Int) < (l2.length : Int) := by omega
              clear HOL HLL hlt
              obtain ⟨w7, hw7⟩ : ∃ w7, w7 = wr := ⟨_, rfl⟩
              subst hw7
              have BX7 : Hid (Bx (fun k => k = b ∨ k = g) w2 w7) := ((unhide BX6).trans (unhide HBX) fun j hj q => by have := unhide HV4 j q; omega)
              have CO7 : Hid (Co w.heap.size w7 b g5 cap5 { C with hits := 0 } R5) := (unhide CO6).bx (unhide HBX) (fun q => by have := unhide HV4 b q; have := unhide HBG; omega) (fun q => by have := unhide HV4 g5 q; have := unhide HBG; omega)
              have hgt := get_any a1 c1 l1 (unhide CO7) ((unhide r1).below (unhide LOW w7 (unhide BX7))) (by omega) (by show (0 : Int) ≤ 0; decide) (by show (0 : Int) ≤ 1000000000; decide) (by show 0 ≤ C.miss; rw [(unhide HH0).2]; decide) (by show C.miss ≤ 1000000000; rw [(unhide HH0).2]; decide)
              have HB7 := hide (show b < w7.heap.size ∧ g5 < w7.heap.size from ⟨(unhide CO7).blt, (unhide CO7).glt.2⟩)
              have ZB7 : Hid (w2.heap.size ≤ w7.heap.size) := (unhide BX7).size
              have HBB : Hid (w.heap.size ≤ b) := (unhide CO7).bB
              clear HBX CO6 BX6
              go_wp2_with fail
              refine hgt.mono ?_
              rintro e w8 ⟨co8, bx8, v8, rfl, ho8⟩
              rw [told_get 0 (unhide HF)] at co8
              rw [told_find 0 (unhide HF)] at ho8 ⊢
              obtain ⟨a8, d8, rfl, -, -, -, rd8, ap8⟩ := OwnL.shape (l := l2) ho8
              have BX8 : Hid (Bx (fun k => k = b ∨ k = g) w2 w8) := (unhide BX7).trans bx8 fun j _ q => .inl q
              have HO8 : Hid (OwnL .i64 3 w8 w7.heap.size (.slice a8 l2.length d8) l2) := ho8
              have CO8 := hide co8
              have Z8 := hide bx8.size
              clear hgt bx8 ho8 co8 CO7 BX7 rd8 ap8
              have hgt := get_any a1 c1 l1 (unhide CO8) ((unhide r1).below (unhide LOW w8 (unhide BX8))) (by omega) (by show (0 : Int) ≤ 0 + 1; decide) (by show (0 + 1 : Int) ≤ 1000000000; decide) (by show 0 ≤ C.miss; rw [(unhide HH0).2]; decide) (by show C.miss ≤ 1000000000; rw [(unhide HH0).2]; decide)
              go_wp2_with fail
              refine hgt.mono ?_
              rintro e w9 ⟨co9, bx9, v9, rfl, ho9⟩
              rw [told_get (0 + 1) (unhide HF)] at co9
              rw [told_find (0 + 1) (unhide HF)] at ho9 ⊢
              obtain ⟨a9, d9, rfl, -, -, -, rd9, ap9⟩ := OwnL.shape (l := l2) ho9
              have BX9 : Hid (Bx (fun k => k = b ∨ k = g) w2 w9) := (unhide BX8).trans bx9 fun j _ q => .inl q
              have HO9 : Hid (OwnL .i64 3 w9 w8.heap.size (.slice a9 l2.length d9) l2) := ho9
              have HO8' : Hid (OwnL .i64 3 w9 w7.heap.size (.slice a8 l2.length d8) l2) := (unhide HO8).bx bx9 fun k hk q => by
                have h3 := ((unhide HO8).lt hk).1
                have h4 := (unhide HB7).1
                have h5 : k = b := q
                omega
              have HL8 : Hid (∀ k, (Value.slice a8 l2.length d8).ownBlock = some k → k < w8.heap.size) := fun k hk => ((unhide HO8).lt hk).2
              have CO9 := hide co9
              have Z9 := hide bx9.size
              clear hgt bx9 ho9 co9 CO8 BX8 rd9 ap9 HO8
              obtain ⟨xa8, xc8, x8, -, -, -, rd8, -⟩ := (unhide HO8').shape
              cases x8
              have hsm := same_list a8 a2 d8 c2 l2 l2 w9 rd8 ((unhide r2).below (unhide LOW w9 (unhide BX9))) (by unfold maxLen; omega)
              rw [decide_eq_true rfl] at hsm
              have HAP : Hid (∀ w10, Below w9.heap.size w9 w10 → Calls Try.prog 31 #[.slice (some ⟨w10.heap.size, 0, none⟩) 2 2] (w10.alloc (.cells #[.slice a8 l2.length d8, .slice a9 l2.length d9] 29)) fun e w' => e = .returned (.bool true) ∧ Below w7.heap.size (w10.alloc (.cells #[.slice a8 l2.length d8, .slice a9 l2.length d9] 29)) w') := fun w10 h10 => by
                have z1 := unhide Z8
                have z2 := unhide Z9
                have z3 := h10.size
                have hx := bstep h10 (ballo w10 (.cells #[.slice a8 l2.length d8, .slice a9 l2.length d9] 29))
                have p0 := (unhide HO8').grown hx
                have p1 := (unhide HO9).grown hx
                refine apart_any w7.heap.size 2 _ (twoV (.slice a8 l2.length d8) (.slice a9 l2.length d9)) _ _ _ (OwnV.two w10 _ _ _ (by omega)) (Fam.two p0 (p1.mono z1) (unhide HL8) (fun k hk => (p1.lt hk).1)) (fun k hk i hi e2 => ?_) (by simp; omega) (by omega) (fun i hi => ?_)
                · obtain rfl : w10.heap.size = k := Option.some.inj hk
                  have q9 := unhide HO9
                  have q8 := unhide HO8'
                  unfold twoV at e2
                  by_cases c : i = 0
                  · rw [if_pos c] at e2; have := (q8.lt e2).2; omega
                  · rw [if_neg c] at e2; have := (q9.lt e2).2; omega
                · show (if i = 0 then l2 else l2).length ≤ 100000
                  split <;> omega
              clear rd8 HO9 HO8' HL8
              go_wp2_with (first | (go_at_call 19; refine hsm.mono ?_; rintro e w10 ⟨rfl, hb10⟩) | (go_at_call 31; refine (unhide HAP w10 hb10).mono ?_; rintro e w11 ⟨rfl, hb11⟩) | fail)
              have CO11 : Hid (Co w.heap.size w11 b g5 cap5 { C with hits := 0 + 1 + 1 } R5) := ((unhide CO9).below (bstep hb10 (ballo _ _))).low hb11 (unhide HB7).1 (unhide HB7).2
              have BX11 : Hid (Bx (fun k => k = b ∨ k = g) w2 w11) := (((unhide BX9).more (hb10.mono (unhide BX9).size)).alloc _).more (hb11.mono (by have := unhide ZB7; omega))
              have HB11 : Hid (b < w11.heap.size ∧ g5 < w11.heap.size) := ⟨(unhide CO11).blt, (unhide CO11).glt.2⟩
              clear hsm HAP hb10 hb11 CO9 BX9
              have hwd := words_any (unhide CO11)
              refine hwd.mono ?_
              rintro e w12 ⟨v12, us12, L12, rfl, hW12, hLL12, hb12, -, -⟩
              obtain rfl := (Wds.hits _ (unhide HWD)).one hW12
              obtain ⟨a12, d12, rfl, -⟩ := hLL12.rdx
              have hwd := words_any ((unhide CO11).below hb12)
              have HLL12 := hide hLL12
              have HB12 := hide hb12
              clear hW12 hLL12 hb12
              go_wp2_with fail
              refine hwd.mono ?_
              rintro e w13 ⟨v13, us13, L13, rfl, hW13, hLL13, hb13, -, -⟩
              obtain rfl := (Wds.hits _ (unhide HWD)).one hW13
              obtain ⟨a13, d13, rfl, hrv13⟩ := hLL13.rdx
              have HLL13 := hide hLL13
              have HB13 := hide hb13
              cases a13 with
              | none =>
                exfalso
                obtain ⟨x1, x2, e13, x3, -, -⟩ := hLL13.out.shape
                cases e13
                have := (x3 rfl).1
                simp at this
              | some ad13 =>
              have hsl : ∀ i, i < 1 → ∃ a k c, us13 i = .slice a k c := fun i hi => hLL13.fam.slices i hi
              have z12 := (unhide HB12).size
              have z13 := hb13.size
              have hsh12 : ∀ (l : Nat), l = [l1].length → l = 1 := fun l h => h
              clear hW13 hLL13 hb13 hwd
              go_wp2_with (first | (at_builtin; refine wplV_app4 (by rfl) (.tmp 115) (.tmp 117) rfl w11.heap.size _ 1 us12 rfl (((unhide HLL12).out).below (unhide HB13)) ad13 1 d13 us13 rfl hrv13 hsl (by omega) (by omega) ?_; intro v14 w14 ho14 hg14 hv14; obtain ⟨a14, d14, rfl, -, -, -⟩ := ho14.shape) | fail)
              have hcat := LLs.cat ((unhide HLL12).below (unhide HB13)) (unhide HLL13) z12 (fun i hi k hk => (((unhide HLL12).fam.own i hi).lt hk).2) (fun k hk => ((unhide HLL12).out.lt hk).2) hg14 hv14
              have hap := apart_any w11.heap.size 2 (.slice a14 2 d14) (joinV 1 us12 us13) _ _ w14 ho14 hcat.1 hcat.2 (by have := hg14.size; omega) (by omega) (fun i hi => by
                by_cases c : i < [l1].length
                · rw [if_pos c]
                  have : i = 0 := by simpa using c
                  subst this
                  show l1.length ≤ _
                  omega
                · rw [if_neg c]
                  have : i - [l1].length = 0 := by simp at c ⊢; omega
                  rw [this]
                  show l1.length ≤ _
                  omega)
              have hb14 : Below w11.heap.size w13 w14 := (Below.refl _ w13).grown hg14 (by omega) fun k hk => ((unhide HLL12).out.lt hk).1
              refine hap.mono ?_
              rintro e w15 ⟨rfl, hb15⟩
              have CO15 : Hid (Co w.heap.size w15 b g5 cap5 { C with hits := 0 + 1 + 1 } R5) := ((((unhide CO11).below (unhide HB12)).below (unhide HB13)).low hb14 (unhide HB11).1 (unhide HB11).2).low hb15 (unhide HB11).1 (unhide HB11).2
              have ZB11 := (unhide BX11).size
              have BX15 : Hid (Bx (fun k => k = b ∨ k = g) w2 w15) := ((((unhide BX11).more ((unhide HB12).mono ZB11)).more ((unhide HB13).mono (by omega))).more (hb14.mono ZB11)).more (hb15.mono ZB11)
              clear hcat hap hb14 hb15 hg14 hv14 ho14 HLL12 HLL13 HB12 HB13 CO11 BX11 hrv13 hsl z12 z13 hsh12 ZB11
              have hgt := get_any a1 c1 l1 (unhide CO15) ((unhide r1).below (unhide LOW w15 (unhide BX15))) (by omega) (by show (0 : Int) ≤ 0 + 1 + 1; decide) (by show (0 + 1 + 1 : Int) ≤ 1000000000; decide) (by show 0 ≤ C.miss; rw [(unhide HH0).2]; decide) (by show C.miss ≤ 1000000000; rw [(unhide HH0).2]; decide)
              go_wp2_with fail
              refine hgt.mono ?_
              rintro e w16 ⟨co16, bx16, v16, rfl, ho16⟩
              rw [told_get (0 + 1 + 1) (unhide HF)] at co16
              rw [told_find (0 + 1 + 1) (unhide HF)] at ho16 ⊢
              obtain ⟨a16, d16, rfl, -, -, -, rd16, -⟩ := OwnL.shape (l := l2) ho16
              have BX16 : Hid (Bx (fun k => k = b ∨ k = g) w2 w16) := (unhide BX15).trans bx16 fun j _ q => .inl q
              have hsm := same_list a16 a2 d16 c2 l2 l2 w16 rd16 ((unhide r2).below (unhide LOW w16 (unhide BX16))) (by unfold maxLen; omega)
              rw [decide_eq_true rfl] at hsm
              have CO16 := hide co16
              clear hgt co16 bx16 ho16 rd16 CO15 BX15
              go_wp2_with (first | (go_at_call 19; refine hsm.mono ?_; rintro e w17 ⟨rfl, hb17⟩) | fail)
              have hwd := words_any ((unhide CO16).below hb17)
              refine hwd.mono ?_
              rintro e w18 ⟨v18, us18, L18, rfl, hW18, hLL18, hb18, -, -⟩
              obtain rfl := (Wds.hits _ (unhide HWD)).one hW18
              obtain ⟨a18, d18, rfl, hrv18⟩ := hLL18.rdx
              have BX18 : Hid (Bx (fun k => k = b ∨ k = g) w2 (w18.alloc (.cells #[.slice a1 l1.length c1] 29))) := ((unhide BX16).more ((bstep hb17 hb18).mono (unhide BX16).size)).alloc _
              have hli := lists_any a18 (some ⟨w18.heap.size, 0, none⟩) 1 d18 1 us18 (fun _ => .slice a1 l1.length c1) (fun _ => l1.length) (fun _ j => l1.getD j 0) (w18.alloc (.cells #[.slice a1 l1.length c1] 29)) (hrv18.below (ballo _ _)) (RdV.lit w18 1 (fun _ => .slice a1 l1.length c1) _ (by unfold maxLen; omega) (by simp [cellsV])) (by unfold maxLen; omega) (fun i hi => by
                obtain rfl : i = 0 := by omega
                obtain ⟨x1, x2, x3, -, -, x4, -⟩ := (hLL18.fam.own 0 (by simp)).shape
                exact ⟨x1, x2, a1, c1, x3, x4.below (ballo _ _), rfl, (unhide r1).below (unhide LOW _ (unhide BX18)), by unfold maxLen; omega⟩)
              have HNO : Hid (∀ w19, Below (w18.alloc (.cells #[.slice a1 l1.length c1] 29)).heap.size (w18.alloc (.cells #[.slice a1 l1.length c1] 29)) w19 → Calls Try.prog 21 #[.pointer (some ⟨b2, 0, none⟩)] w19 fun e w' => e = .returned (.int .i64 1) ∧ w' = w19) := fun w19 h19 => by
                have := nodes_any (((unhide CO2).bx (unhide BX18) (by have := unhide HB2; rintro (q | q) <;> omega) (by have := unhide HB2; rintro (q | q) <;> omega)).below h19)
                exact this
              have HL18 := hide (unhide LOW _ (unhide BX18))
              clear hwd hW18 hLL18 hrv18 hsm CO16 BX16 BX18 hb17 hb18 CO2
              go_wp2_with (first | (go_at_call 25; refine hli.mono ?_; rintro e w19 ⟨rfl, hb19⟩) | (go_at_call 21; refine (unhide HNO w19 hb19).mono ?_; rintro e w' ⟨rfl, hw'⟩; subst w') | (go_at_call 10; refine (live_any _).mono ?_; rintro e w9 ⟨rfl, hb9⟩))
              go_ret
              exact ⟨rfl, bstep (bstep (unhide HL18) hb19) hb9⟩
    · have t9 : ((putV (newV 2 3 2 500) l1 l2).2 == 0) = false := beq_eq_false_iff_ne.2 hz
      generalize (putV (newV 2 3 2 500) l1 l2).2 = E at *
      clear hz co5
      go_wp2_with (first | (go_at_call 13; refine (num_any _ _).mono ?_; rintro e w' ⟨rfl, hw'⟩; subst w'))
      go_loopw [15] (fun x wr => ∃ (i : Nat) (l : List Int), x = .int .i64 i ∧ i ≤ l1.length ∧ Hid (l.length = l1.length) ∧ Hid (OwnL .i64 3 wr w2.heap.size (.slice a3 l.length c3) l) ∧ Hid (Bx (fun k => (Value.slice a3 l1.length c3).ownBlock = some k) w5 wr)) (fun x _ => l1.length - (intOf x).toNat)
      case atStart => exact ⟨0, l1, rfl, Nat.zero_le _, hide rfl, HO3', hide (Bx.refl _ _)⟩
      case round =>
        obtain ⟨i, l, rfl, hi, HLL, HOL, HBX⟩ := hrel
        by_cases hlt : i < l1.length
        · have hlt' : (i : Int) < (l1.length : Int) := by omega
          obtain ⟨gg, cg, eg, -, -, -, -, hcg, hfg⟩ := (unhide HOL).pos (by rw [unhide HLL]; omega)
          cases eg
          have k0 := hcg i (by rw [unhide HLL]; exact hlt)
          have k1 := hfg i
          have HOS := hide ((unhide HOL).store i 9)
          clear hcg hfg
          go_wp2
          go_roundw
          case rel => exact ⟨i + 1, l.set i 9, by go_num, by omega, hide (by rw [List.length_set]; exact unhide HLL), hide (by rw [List.length_set]; exact unhide HOS), hide ((unhide HBX).setCell (p := ⟨gg, i, none⟩) rfl _)⟩
          case measure => simp [intOf]; omega
        · have hlt' : ¬ (i : Int) < (l1.length : Int) := by omega
          clear HOL HLL hlt
          obtain ⟨w6, hw6⟩ : ∃ w6, w6 = wr := ⟨_, rfl⟩
          subst hw6
          have BX6 : Hid (Bx (fun k => k = b ∨ k = g) w2 w6) := (unhide BX5).trans (unhide HBX) fun j hj q => by have := unhide HV3 j q; omega
          have HO6 : Hid (OwnL .i64 3 w6 w3.heap.size (.slice a4 l2.length c4) l2) := (unhide HO5).bx (unhide HBX) fun k hk q => by
            have := unhide HV3 k q
            have := ((unhide HO5).lt hk).1
            omega
          clear HBX HO5 BX5
          go_wp2
          go_loopw [16] (fun x wr => ∃ (i : Nat) (l : List Int), x = .int .i64 i ∧ i ≤ l2.length ∧ Hid (l.length = l2.length) ∧ Hid (OwnL .i64 3 wr w3.heap.size (.slice a4 l.length c4) l) ∧ Hid (Bx (fun k => (Value.slice a4 l2.length c4).ownBlock = some k) w6 wr)) (fun x _ => l2.length - (intOf x).toNat)
          case atStart => exact ⟨0, l2, rfl, Nat.zero_le _, hide rfl, HO6, hide (Bx.refl _ _)⟩
          case round =>
            obtain ⟨i, l, rfl, hi, HLL, HOL, HBX⟩ := hrel
            by_cases hlt : i < l2.length
            · have hlt' : (i : Int) < (l2.length : Int) := by omega
              obtain ⟨gg, cg, eg, -, -, -, -, hcg, hfg⟩ := (unhide HOL).pos (by rw [unhide HLL]; omega)
              cases eg
              have k0 := hcg i (by rw [unhide HLL]; exact hlt)
              have k1 := hfg i
              have HOS := hide ((unhide HOL).store i 9)
              clear hcg hfg
              go_wp2
              go_roundw
              case rel => exact ⟨i + 1, l.set i 9, by go_num, by omega, hide (by rw [List.length_set]; exact unhide HLL), hide (by rw [List.length_set]; exact unhide HOS), hide ((unhide HBX).setCell (p := ⟨gg, i, none⟩) rfl _)⟩
              case measure => simp [intOf]; omega
            · have hlt' : ¬ (i : Int) < (l2.length : Int) := by omega
              clear HOL HLL hlt
              obtain ⟨w7, hw7⟩ : ∃ w7, w7 = wr := ⟨_, rfl⟩
              subst hw7
              have BX7 : Hid (Bx (fun k => k = b ∨ k = g) w2 w7) := ((unhide BX6).trans (unhide HBX) fun j hj q => by have := unhide HV4 j q; omega)
              clear HBX
              go_wp2_with (first | (go_at_call 10; refine (live_any _).mono ?_; rintro e w9 ⟨rfl, hb9⟩))
              go_ret
              exact ⟨rfl, bstep (unhide LOW w7 (unhide BX7)) hb9⟩

end Go.Proofs.Ytemalidanjfmkaa
