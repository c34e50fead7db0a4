/-
  DotLines, walked: for every input the call returns true.
-/
import Derived.Test.YtbhdcgebcmgidaaDoorTWApart
import Derived.Lib.BufferOwn
namespace Go.Proofs.YtbhdcgebcmgidaaDoor
set_option linter.unusedVariables false
open Go.RowKit

theorem dt_bytes {T : List UInt8} {i : Nat} (hi : i < T.length) : (zs T).getD i 0 = ((T.getD i 0).toNat : Int) := by
  rw [zs_getD hi]
theorem cnt_step {T : List UInt8} {i : Nat} (hi : i < T.length) : (T.take (i + 1)).count 10 = (T.take i).count 10 + (if T.getD i 0 = 10 then 1 else 0) := by
  rw [List.take_add_one, List.getElem?_eq_getElem hi, List.count_append]
  congr 1
  have e : T.getD i 0 = T[i] := by simp [hi]
  rw [e]
  by_cases h : T[i] = 10
  · rw [if_pos h, h]; rfl
  · rw [if_neg h]
    simp [h]
theorem byte_ten {x : UInt8} : (((x.toNat : Int) != 10) = false) ↔ x = 10 := by
  constructor
  · intro h
    have h1 : (x.toNat : Int) = 10 := by simpa using h
    exact UInt8.toNat_inj.1 (by show x.toNat = 10; omega)
  · intro h; subst h; rfl
theorem own_gr {q : IntKind} {t : TypeId} {w w' : World} {B X : Nat} {v : Value} {l : List Int} (h : OwnL q t w B v l) (hg : w.grownBy w' (some X)) (hx : X < B) : OwnL q t w' B v l :=
  h.keep fun b hb => hg.block b (h.lt hb).2 fun e => by injection e with e; have := (h.lt hb).1; omega

theorem Box.gz {w w' : World} {b : Nat} {m : Mc} {a1 : Option Addr} {c1 : Nat} {a2 : Option Addr} {c2 : Nat} {X : Nat} (h : Box w b m a1 c1 a2 c2) (hg : w.grownBy w' (some X)) (hb : b ≠ X) : Box w' b m a1 c1 a2 c2 := by
  have hlt := World.block_lt_of_cell? w _ h.p0
  have e : ∀ i, w'.cell? ⟨b, i, none⟩ = w.cell? ⟨b, i, none⟩ := fun i => World.cell?_of_block (a := ⟨b, i, none⟩) (hg.block b hlt fun e => hb (by injection e))
  exact ⟨by rw [e]; exact h.p0, by rw [e]; exact h.p1, by rw [e]; exact h.p2, by rw [e]; exact h.p3, by rw [e]; exact h.p4, by rw [e]; exact h.p5⟩

set_option maxRecDepth 100000 in
set_option maxHeartbeats 4000000 in
theorem dotLines_walk (m : Mc) (a1 : Option Addr) (c1 : Nat) (a2 : Option Addr) (c2 : Nat) (a : Option Addr) (c : Nat) (names : List Int) (w : World) (h0 : ArgM w m a1 c1 a2 c2) (hA : ArgL .i32 4 w a c names) (gp : Gp w) :
    Calls Tryd.prog 5 #[mval m a1 c1 a2 c2, .slice a names.length c] w fun e w' => e = .returned (.bool true) ∧ Below w.heap.size w w' := by
  have GP := hide gp
  clear gp
  unfold mval
  have B0 := Box.alloc w m a1 c1 a2 c2 24
  have b0 := ballo w (.cells #[.int .i64 m.kind, .int .i64 m.k, .int .i64 m.o, .int .i64 m.n, .slice a1 m.nx.length c1, .slice a2 m.out.length c2] 24)
  cases hbig : bigB 100 m
  rotate_left
  · go_enter Tryd.func5, Tryd.ntmps5
    go_wp2_with fail
    refine (big_any 100 m a1 c1 a2 c2 _).mono ?_
    rw [hbig]
    rintro e w1 ⟨rfl, hb1⟩
    have b1 := bstep b0 hb1
    go_wp2_with (go_at_call 7; refine (live_any _ ((unhide GP).below (by first | assumption | exact bstep b9 hb9 | exact bstep b5 hb57))).mono ?_; rintro e wl ⟨rfl, hbl⟩)
    go_ret
    exact ⟨rfl, bstep b1 hbl⟩
  obtain ⟨-, ln, lo⟩ := bigF hbig
  have mn : m.nx.length ≤ maxLen := by unfold maxLen; omega
  have mo : m.out.length ≤ maxLen := by unfold maxLen; omega
  by_cases hl : 1000 < names.length
  · have hl' : (names.length : Int) > 1000 := by omega
    go_enter Tryd.func5, Tryd.ntmps5
    go_wp2_with fail
    refine (big_any 100 m a1 c1 a2 c2 _).mono ?_
    rw [hbig]
    rintro e w1 ⟨rfl, hb1⟩
    have b1 := bstep b0 hb1
    go_wp2_with (go_at_call 7; refine (live_any _ ((unhide GP).below (by first | assumption | exact bstep b9 hb9 | exact bstep b5 hb57))).mono ?_; rintro e wl ⟨rfl, hbl⟩)
    go_ret
    exact ⟨rfl, bstep b1 hbl⟩
  have hl' : ¬ ((names.length : Int) > 1000) := by omega
  have hrd := hA.rd
  clear hA
  by_cases he : (dtV m names).2 = 0
  rotate_left
  · have tz : ((dtV m names).2 != 0) = true := by simpa using he
    have hnil : (dtV m names).1 = [] := by
      unfold dtV
      split
      · rfl
      · split
        · rfl
        · split
          · rfl
          · rename_i x1 x2 x3
            exfalso; apply he
            unfold dtV
            rw [if_neg x1, if_neg x2, if_neg x3]
    go_enter Tryd.func5, Tryd.ntmps5
    go_wp2_with fail
    refine (big_any 100 m a1 c1 a2 c2 _).mono ?_
    rw [hbig]
    rintro e w1 ⟨rfl, hb1⟩
    have b1 := bstep b0 hb1
    obtain ⟨p0, p1, p2, p3, p4, p5⟩ := B0.below hb1
    have hd := ddot_any m a1 c1 a2 c2 a c names w1 (h0.nx.rd.below b1) (h0.out.rd.below b1) (hrd.below b1) mn mo ((unhide GP).below b1)
    unfold mval DtPost at hd
    go_wp2_with fail
    refine hd.mono ?_
    rintro e w3 ⟨v3, rfl, ho3, hb3⟩
    have b3 := bstep b1 hb3
    rw [hnil] at ho3
    obtain ⟨x1, y1, rfl, -, -, -, -, -⟩ := ho3.shape
    rw [zs_len, show ([] : List UInt8).length = 0 from rfl]
    clear hd p0 p1 p2 p3 p4 p5 ho3 hnil he
    generalize (dtV m names).2 = ea at *
    go_wp2_with (first | (go_at_call 14; refine (num_any _ _).mono ?_; rintro e wz ⟨rfl, hwz⟩; subst wz) | (go_at_call 7; refine (live_any _ ((unhide GP).below (by first | assumption | exact bstep b9 hb9 | exact bstep b5 hb57))).mono ?_; rintro e wl ⟨rfl, hbl⟩))
    go_ret
    exact ⟨rfl, bstep b3 hbl⟩
  obtain ⟨F, hK, e1⟩ := dtV_zero he
  have hct := cnt_dt F (nob_lbL names names.length)
  have h2 : ∀ i, i < (dtT m (lbL names names.length)).length → (dtT m (lbL names names.length)).getD i 0 = 10 → _ := fun i hi h => dt_two F (nob_lbL names names.length) hi h
  have hTl : (dtT m (lbL names names.length)).length ≤ 7000000 := by
    unfold dtT
    have h1 := ind_le (n := 90) (dtL_le F names names.length)
    have h3 : (dtL m (lbL names names.length)).length ≤ 70000 := by
      rw [dtL_len]
      have : m.n.toNat * m.k.toNat ≤ 1024 * 64 := Nat.mul_le_mul (by have := F.r.n1; omega) (by have := F.r.k1; omega)
      have := F.r.n1; omega
    have h4 : (dtL m (lbL names names.length)).length * 93 ≤ 70000 * 93 := Nat.mul_le_mul_right _ h3
    have h5 : dHead.length = 12 := rfl
    simp only [List.length_append, List.length_cons, List.length_nil]
    omega
  have hT3 : 14 ≤ (dtT m (lbL names names.length)).length := by
    unfold dtT
    have h5 : dHead.length = 12 := rfl
    simp only [List.length_append, List.length_cons, List.length_nil]
    omega
  obtain ⟨T, hT⟩ : ∃ T, T = dtT m (lbL names names.length) := ⟨_, rfl⟩
  rw [← hT] at e1 hct h2 hTl hT3
  have H2 := hide h2
  have HF := hide F
  have hcN : ((T.count 10 : Nat) : Int) = m.n + m.n * m.k + 5 := by
    rw [hct]
    have q1 : ((m.n.toNat * m.k.toNat : Nat) : Int) = m.n * m.k := by rw [Int.natCast_mul, Int.toNat_of_nonneg (by have := F.r.n0; omega), Int.toNat_of_nonneg (by have := F.r.k0; omega)]
    have := F.r.n0; omega
  have hmk : 0 ≤ m.n * m.k ∧ m.n * m.k ≤ 1024 * 64 := ⟨Int.mul_nonneg (by have := F.r.n0; omega) (by have := F.r.k0; omega), Int.mul_le_mul F.r.n1 F.r.k1 (by have := F.r.k0; omega) (by decide)⟩
  have wr1 : IntKind.i64.wrap (m.n * m.k) = m.n * m.k := by rw [IntKind.wrap_i64]; omega
  have wr2 : IntKind.i64.wrap (m.n + m.n * m.k) = m.n + m.n * m.k := by rw [IntKind.wrap_i64]; have := F.r.n0; have := F.r.n1; omega
  have wr3 : IntKind.i64.wrap (m.n + m.n * m.k + 5) = m.n + m.n * m.k + 5 := by rw [IntKind.wrap_i64]; have := F.r.n0; have := F.r.n1; omega
  have HCN := hide hcN
  clear hct h2 hT hcN F hK
  have hW : Hid (Calls Tryd.prog 5 #[.agg #[.int .i64 m.kind, .int .i64 m.k, .int .i64 m.o, .int .i64 m.n, .slice a1 m.nx.length c1, .slice a2 m.out.length c2], .slice a names.length c] w fun e w' => e = .returned (.bool true) ∧ Below w.heap.size w w') := by
    go_enter Tryd.func5, Tryd.ntmps5
    go_wp2_with fail
    refine (big_any 100 m a1 c1 a2 c2 _).mono ?_
    rw [hbig]
    rintro e w1 ⟨rfl, hb1⟩
    have b1 := bstep b0 hb1
    have B1 := B0.below hb1
    obtain ⟨p0, p1, p2, p3, p4, p5⟩ := id B1
    have hd := ddot_any m a1 c1 a2 c2 a c names w1 (h0.nx.rd.below b1) (h0.out.rd.below b1) (hrd.below b1) mn mo ((unhide GP).below b1)
    unfold mval DtPost at hd
    rw [he, e1] at hd
    go_wp2_with fail
    refine hd.mono ?_
    rintro e w3 ⟨v3, rfl, ho3, hb3⟩
    have b3 := bstep b1 hb3
    have B3 := B1.below hb3
    have z1 : w.heap.size < w1.heap.size := World.block_lt_of_cell? w1 _ p0
    obtain ⟨X, y1, rfl, -, -, hX1, hX2, hcX, -⟩ := ho3.pos (by rw [zs_len]; omega)
    have HO3 := hide ho3
    have hcT : ∀ i, i < T.length → w3.cell? ⟨X, i, none⟩ = some (.int .u8 ((T.getD i 0).toNat : Int)) := fun i hi => by rw [hcX i (by rw [zs_len]; exact hi), dt_bytes hi]
    have HCT := hide hcT
    rw [zs_len]
    clear hd p0 p1 p2 p3 p4 p5 ho3 hcX hcT hbig B0 b0
    go_wp2_with (go_at_call 14; refine (num_any _ _).mono ?_; rintro e wz ⟨rfl, hwz⟩; subst wz)
    go_loopw [7, 8, 9] (fun n wg i wx => ∃ I : Nat, i = .int .i64 (I : Int) ∧ I ≤ T.length ∧ n = .int .i64 (((T.take I).count 10 : Nat) : Int) ∧ wg = .bool false ∧ wx = w3) (fun _ _ i _ => T.length - (intOf i).toNat)
    case atStart => exact ⟨0, rfl, Nat.zero_le _, rfl, rfl, rfl⟩
    case round =>
      obtain ⟨I, rfl, hI, rfl, rfl, rfl⟩ := hrel
      by_cases hlt : I < T.length
      · have hlt' : (I : Int) < (T.length : Int) := by omega
        have hcI := unhide HCT I hlt
        have hcl : (T.take I).count 10 ≤ 7000000 := Nat.le_trans List.count_le_length (by rw [List.length_take]; omega)
        by_cases hten : T.getD I 0 = 10
        · have HS : Hid ((T.take (I + 1)).count 10 = (T.take I).count 10 + 1) := by show _ = _; rw [cnt_step hlt, if_pos hten]
          have hc10 : wr.cell? ⟨X, I, none⟩ = some (.int .u8 10) := by rw [hcI, hten]; rfl
          have w3' : IntKind.i64.wrap ((T.length : Int) - 3) = (T.length : Int) - 3 := by rw [IntKind.wrap_i64]; omega
          have w1' : IntKind.i64.wrap ((T.length : Int) - 1) = (T.length : Int) - 1 := by rw [IntKind.wrap_i64]; omega
          by_cases i3 : I = T.length - 3
          · have e3 : ((I : Int) == (T.length : Int) - 3) = true := by simp; omega
            have l1 : (I : Int) < (T.length : Int) - 1 := by omega
            clear hcI hten i3
            generalize (T.take I).count 10 = C at *
            go_wp2
            go_roundw
            case rel =>
              refine ⟨I + 1, by go_num, by omega, ?_⟩
              rw [unhide HS]; simp
            case measure => simp [intOf]; omega
          · have e3 : ((I : Int) == (T.length : Int) - 3) = false := by simp; omega
            rcases unhide H2 I hlt hten with h | h | ⟨h, h5, h6⟩
            · have l1 : ¬ ((I : Int) < (T.length : Int) - 1) := by omega
              clear hcI hten i3 h
              generalize (T.take I).count 10 = C at *
              go_wp2
              go_roundw
              case rel =>
                refine ⟨I + 1, by go_num, by omega, ?_⟩
                rw [unhide HS]; simp
              case measure => simp [intOf]; omega
            · exact absurd h i3
            · have l1 : (I : Int) < (T.length : Int) - 1 := by omega
              have l2 : (I : Int) + 1 < (T.length : Int) := by omega
              have l3 : (I : Int) + 2 < (T.length : Int) := by omega
              have hc11 : wr.cell? ⟨X, I + 1, none⟩ = some (.int .u8 32) := by rw [unhide HCT (I + 1) (by omega), h5]; rfl
              have hc12 : wr.cell? ⟨X, I + 2, none⟩ = some (.int .u8 32) := by rw [unhide HCT (I + 2) h, h6]; rfl
              clear hcI hten i3 h h5 h6
              generalize (T.take I).count 10 = C at *
              go_wp2
              go_roundw
              case rel =>
                refine ⟨I + 1, by go_num, by omega, ?_⟩
                rw [unhide HS]; simp
              case measure => simp [intOf]; omega
        · have tz : (((T.getD I 0).toNat : Int) != 10) = true := by
            cases h : (((T.getD I 0).toNat : Int) != 10)
            · exact absurd (byte_ten.1 h) hten
            · rfl
          have HS : Hid ((T.take (I + 1)).count 10 = (T.take I).count 10) := by show _ = _; rw [cnt_step hlt, if_neg hten]; exact Nat.add_zero _
          clear hten
          generalize (T.getD I 0).toNat = y at *
          generalize (T.take I).count 10 = C at *
          go_wp2
          go_roundw
          case rel =>
            refine ⟨I + 1, by go_num, by omega, ?_⟩
            rw [unhide HS]; simp
          case measure => simp [intOf]; omega
      · have hIe : T.length = I := by omega
        subst hIe
        have hge : ¬ ((T.length : Int) < (T.length : Int)) := by omega
        rw [List.take_length]
        have HO : Hid (OwnL .u8 5 wr w1.heap.size (.slice (some ⟨X, 0, none⟩) T.length y1) (zs T)) := by have h := unhide HO3; rw [zs_len] at h; exact h
        rename World => w3
        clear HO3 HCT hlt hI
        go_wp2
        go_loopw [11] (fun i wx => ∃ (I : Nat) (l : List Int), I ≤ T.length ∧ i = .int .i64 I ∧ l.length = T.length ∧ OwnL .u8 5 wx w1.heap.size (.slice (some ⟨X, 0, none⟩) T.length y1) l ∧ w3.grownBy wx (some X)) (fun i _ => T.length - (intOf i).toNat)
        case atStart => exact ⟨0, zs T, Nat.zero_le _, rfl, zs_len T, unhide HO, ⟨rfl, rfl, rfl, Nat.le_refl _, fun _ _ _ => rfl⟩⟩
        case round =>
          obtain ⟨I, l, hI, rfl, hll, hl, hg⟩ := hrel
          clear HO
          by_cases hlt : I < T.length
          · rw [← hll] at hl
            obtain ⟨_, _, E1, -, -, -, -, hc, hf⟩ := hl.pos (by omega)
            cases E1
            have hc1 := hc I (by omega)
            have hf1 := hf I
            have hs := hl.store I 120
            rw [hll] at hs
            have hgs := Lib.grownBy_setB hg I (.int .u8 120)
            clear hc hf
            go_wp2_with fail
            refine ⟨⟨I + 1, l.set I 120, by omega, by simp, by rw [List.length_set]; exact hll, hs, hgs⟩, ?_⟩
            simp only [intOf]
            omega
          · have hIe : T.length = I := by omega
            subst hIe
            have b4 : Below w.heap.size w wr := b3.trans ((Below.refl _ _).grown hg b3.size fun k hk => by injection hk with hk; omega)
            have B4 := B3.gz hg (by omega)
            have hd := ddot_any m a1 c1 a2 c2 a c names wr (h0.nx.rd.below b4) (h0.out.rd.below b4) (hrd.below b4) mn mo ((unhide GP).below b4)
            unfold mval DtPost at hd
            rw [he, e1] at hd
            obtain ⟨p0, p1, p2, p3, p4, p5⟩ := id B4
            clear hl hg hge
            go_wp2_with fail
            refine hd.mono ?_
            rintro e w5 ⟨v5, rfl, ho5, hb5⟩
            have b5 := bstep b4 hb5
            have B5 := B4.below hb5
            clear p0 p1 p2 p3 p4 p5 hd
            obtain ⟨p0, p1, p2, p3, p4, p5⟩ := id B5
            have hx := rdot_any m a1 c1 a2 c2 a c names w5 (h0.nx.rd.below b5) (h0.out.rd.below b5) (hrd.below b5) mn mo
            unfold mval DtPost at hx
            rw [he, e1] at hx
            go_wp2_with fail
            refine hx.mono ?_
            rintro e w6 ⟨v6, rfl, ho6, hb6⟩
            have b6 := bstep b5 hb6
            obtain ⟨x1, z1', rfl, hn1, -, -, rd1, -⟩ := (ho5.grown hb6).shape
            obtain ⟨x2, z2', rfl, hn2, -, -, rd2, -⟩ := ho6.shape
            rw [zs_len] at hn1 hn2
            have hs := bsame_any x1 x2 z1' z2' T T w6 rd1 rd2 hn1 hn2
            rw [decide_eq_true rfl] at hs
            rw [zs_len]
            clear p0 p1 p2 p3 p4 p5 hx ho5 ho6 rd1 rd2 hn1 hn2
            obtain ⟨p0, p1, p2, p3, p4, p5⟩ := B5.below hb6
            have tn : (((T.count 10 : Nat) : Int) == m.n + m.n * m.k + 5) = true := by rw [unhide HCN]; simp
            generalize T.count 10 = C at *
            generalize T.length = LT at *
            go_wp2_with (first | (go_at_call 13; refine hs.mono ?_; rintro e wz ⟨rfl, hwz⟩; subst wz) | (go_at_call 7; refine (live_any _ ((unhide GP).below (by first | assumption | exact bstep b9 hb9 | exact bstep b5 hb57))).mono ?_; rintro e wl ⟨rfl, hbl⟩))
            go_ret
            exact ⟨rfl, bstep b6 hbl⟩
  exact unhide hW

end Go.Proofs.YtbhdcgebcmgidaaDoor
