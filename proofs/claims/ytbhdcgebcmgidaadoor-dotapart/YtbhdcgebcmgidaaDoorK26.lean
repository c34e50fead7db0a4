/-
  Some texts of this seat, one behind the other.
-/
import Derived.Test.YtbhdcgebcmgidaaDoorK24
import Derived.Test.YtbhdcgebcmgidaaDoorK25
import Derived.Test.YtbhdcgebcmgidaaDoorK3
/-
  The program's Dot.
-/
namespace Go.Proofs.YtbhdcgebcmgidaaDoor
open Go.RowKit

/-! ### The lines, in plain words -/
theorem range_two {α : Type} (F : Nat → Nat → α) (K : Nat) (hK : 1 ≤ K) : ∀ n, (List.range (n * K)).map (fun y => F (y / K) (y % K)) = (List.range n).flatMap fun s => (List.range K).map (F s)
  | 0 => by simp
  | n + 1 => by
    rw [Nat.add_mul, Nat.one_mul, List.range_add, List.map_append, range_two F K hK n, List.range_succ, List.flatMap_append]
    congr 1
    simp only [List.flatMap_cons, List.flatMap_nil, List.append_nil, List.map_map]
    refine List.map_congr_left fun x hx => ?_
    have hx' := List.mem_range.1 hx
    show F ((n * K + x) / K) ((n * K + x) % K) = F n x
    rw [Nat.add_comm, Nat.add_mul_div_right _ _ (by omega), Nat.div_eq_of_lt hx', Nat.add_mul_mod_self_right, Nat.mod_eq_of_lt hx', Nat.zero_add]
def i2 (l : List UInt8) : List UInt8 := [32, 32] ++ l
theorem txL_i2 (l : List (List UInt8)) : txL (l.map i2) = ind l := by
  unfold txL ind i2
  rw [List.flatMap_map]
theorem txL_app (l k : List (List UInt8)) : txL (l ++ k) = txL l ++ txL k := by simp [txL]
/-- A state's shape, as the writer tells it. -/
def shG (m : Mc) (s : Nat) : List UInt8 := if m.kind = 1 ∧ m.out.getD s 0 = 1 then sDbl ++ sCirc else sCirc
/-- What stands at a way. -/
def laG (m : Mc) (ls : List (List UInt8)) (K y : Nat) : List UInt8 := ls.getD (y % K) [] ++ (if m.kind = 2 then [47] ++ Lib.itoa (m.out.getD y 0) else [])
theorem st_line (m : Mc) (s : Nat) : [32, 32] ++ Lib.itoa (s : Int) ++ sShp ++ shG m s ++ [93] = i2 (dtS m s) := by
  unfold shG i2 dtS
  split <;> simp [sShp, sDbl, sCirc, dTwo, dOne]
theorem wy_line (m : Mc) (ls : List (List UInt8)) (K y : Nat) (hk : m.k.toNat = K) : [32, 32] ++ Lib.itoa ((y / K : Nat) : Int) ++ dArr ++ Lib.itoa (m.nx.getD y 0) ++ dLab ++ laG m ls K y ++ dEnd = i2 (dtA m ls (y / K) (y % K)) := by
  unfold laG i2 dtA dtO
  have e : y / K * m.k.toNat + y % K = y := by rw [hk, Nat.mul_comm]; exact Nat.div_add_mod y K
  rw [e]
  simp only [List.append_assoc]
def xsD (m : Mc) (n : Nat) : List (List UInt8) := (List.range n).map fun s => i2 (dtS m s)
def ysD (m : Mc) (ls : List (List UInt8)) (n K : Nat) : List (List UInt8) := (List.range (n * K)).map fun y => i2 (dtA m ls (y / K) (y % K))
theorem ysD_eq (m : Mc) (ls : List (List UInt8)) (n K : Nat) (hK : 1 ≤ K) (hk : m.k.toNat = K) : ysD m ls n K = (dtW m ls n).map i2 := by
  unfold ysD dtW
  rw [range_two (fun s x => i2 (dtA m ls s x)) K hK n, List.map_flatMap, hk]
  simp only [List.map_map]
  rfl
theorem all_text (m : Mc) (ls : List (List UInt8)) (n K : Nat) (hK : 1 ≤ K) (hk : m.k.toNat = K) (hn : m.n.toNat = n) : txL (allL (xsD m n) (ysD m ls n K)) = dtT m ls := by
  have e1 : xsD m n = ((List.range n).map (dtS m)).map i2 := by unfold xsD; rw [List.map_map]; rfl
  have e2 : txL hdL = dHead ++ ind [dRank, dStart] := by simp [txL, hdL, dHead, ind]
  have e3 : txL goL = ind [dGo] := by simp [txL, goL, ind]
  have e4 : txL edL = [125, 10] := by simp [txL, edL]
  unfold allL dtT dtL
  rw [txL_app, txL_app, txL_app, txL_app, e1, ysD_eq m ls n K hK hk, txL_i2, txL_i2, e2, e3, e4, hn, ind_app, ind_app, ind_app]
  simp only [List.append_assoc]
theorem all_le {m : Mc} (F : Full m) (names : List Int) (n K : Nat) (hK : 1 ≤ K) (hk : m.k.toNat = K) (hn : m.n.toNat = n) (q : Nat) : ∀ l ∈ allL (xsD m n) (ysD m (lbL names q) n K), l.length ≤ 10000 := fun l hl => by
  have H := dtL_le F names q
  have hi : ∀ x, x ∈ dtL m (lbL names q) → (i2 x).length ≤ 10000 := fun x hx => by
    have := H x hx
    unfold i2
    simp only [List.length_append, List.length_cons, List.length_nil]
    omega
  unfold allL at hl
  simp only [List.mem_append] at hl
  rcases hl with (((h | h) | h) | h) | h
  · simp only [hdL, List.mem_cons, List.not_mem_nil, or_false] at h
    rcases h with rfl | rfl | rfl <;> decide
  · obtain ⟨s, hs, rfl⟩ := List.mem_map.1 h
    exact hi _ (by unfold dtL; rw [hn]; simp only [List.mem_append]; exact .inl (.inl (.inr (List.mem_map.2 ⟨s, hs, rfl⟩))))
  · simp only [goL, List.mem_cons, List.not_mem_nil, or_false] at h
    rw [h]; decide
  · rw [ysD_eq m _ n K hK hk] at h
    obtain ⟨x, hx, rfl⟩ := List.mem_map.1 h
    exact hi _ (by unfold dtL; rw [hn]; simp only [List.mem_append]; exact .inr hx)
  · simp only [edL, List.mem_cons, List.not_mem_nil, or_false] at h
    rw [h]; decide
theorem xsD_get {m : Mc} {n i : Nat} (h : i < n) : (xsD m n).getD i [] = i2 (dtS m i) := by simp [xsD, h]
theorem ysD_get {m : Mc} {ls : List (List UInt8)} {n K i : Nat} (h : i < n * K) : (ysD m ls n K).getD i [] = i2 (dtA m ls (i / K) (i % K)) := by simp [ysD, h]

end Go.Proofs.YtbhdcgebcmgidaaDoor

/-
  The program's Dot: its contract.
-/
namespace Go.Proofs.YtbhdcgebcmgidaaDoor
open Go.RowKit

theorem TellsF.congr {W : World} {v : Value} {n : Nat} {g g' : Nat → List UInt8} (h : TellsF W v n g) (he : ∀ i, i < n → g i = g' i) : TellsF W v n g' := by
  obtain ⟨f, lb, e, hen, ht⟩ := h
  exact ⟨f, lb, e, hen, fun W' hW i hi => by rw [← he i hi]; exact ht W' hW i hi⟩
theorem nx_fit {m : Mc} (F : Full m) {i : Nat} : FitP (m.nx.getD i 0) ∧ (Lib.itoa (m.nx.getD i 0)).length ≤ 1000 := by
  have h0 := F.nxN i
  have h1 : m.nx.getD i 0 ≤ 9999 := by
    by_cases h : i < m.nx.length
    · have := (F.r.st i h).2; have := F.r.n1; omega
    · rw [List.getD_eq_getElem?_getD, List.getElem?_eq_none (by omega)]; decide
  have := itoa_le h0 h1
  exact ⟨⟨by omega, by omega⟩, by omega⟩
theorem out_fit {m : Mc} (F : Full m) {i : Nat} : FitP (m.out.getD i 0) ∧ (Lib.itoa (m.out.getD i 0)).length ≤ 1000 := by
  have h0 := F.outN i
  have h1 : m.out.getD i 0 ≤ 9999 := by
    by_cases h : i < m.out.length
    · have := (F.r.so i h).2; have := F.o1; omega
    · rw [List.getD_eq_getElem?_getD, List.getElem?_eq_none (by omega)]; decide
  have := itoa_le h0 h1
  exact ⟨⟨by omega, by omega⟩, by omega⟩
theorem itoa_natL {k : Nat} (h : k ≤ 9999) : (Lib.itoa (k : Int)).length ≤ 1000 := by
  have := itoa_le (Int.natCast_nonneg k) (by omega)
  omega

theorem newW_any (m : Mc) (a1 : Option Addr) (c1 : Nat) (a2 : Option Addr) (c2 p n K : Nat) (ls : List (List UInt8)) (w : World) (F : Full m) (hn : m.n = (n : Int)) (hk : m.k = (K : Int)) (h2 : RdL .i64 w a2 m.out) (hp : Bk w p (ls.map bsV) 9) (hl : ls.length = K) (hle : ∀ x, (ls.getD x []).length ≤ 5) (gp : Gp w) :
    Calls Tryd.prog 18 #[mval m a1 c1 a2 c2, .slice (some ⟨p, 0, none⟩) K K] w fun e w' => ∃ fs lS fl lL, e = .returned (wrV m a1 c1 a2 c2 (.func (.func fs) #[] lS) (.func (.func fl) #[] lL)) ∧ Below w.heap.size w w' ∧ TellsF w' (.func (.func fs) #[] lS) n (shG m) ∧ TellsF w' (.func (.func fl) #[] lL) (n * K) (laG m ls K) := by
  have k0 := F.r.k0
  have k1 := F.r.k1
  have hnk : (m.n * m.k) = ((n * K : Nat) : Int) := by rw [hn, hk]; rfl
  rcases F.r.kd with kd | kd
  · have ho := F.r.outD kd
    refine (newW_dfa m a1 c1 a2 c2 p K w kd).mono ?_
    rintro e w' ⟨u, b1, b2, rfl, hb, q1, q2, x1, x2, rfl, -, -, y1, y2⟩
    have t1 := out_tells w' m a1 c1 a2 c2 b1 b2 _ _ n (fun _ => sCirc) q1 q2 (plain_tells w' n) (h2.below hb) (by omega) (fun _ => by decide)
    have t2 := name_tells w' m a1 c1 a2 c2 x1 x2 p K ls (n * K) y1 y2 (hp.below hb) hk hl (by omega) (by omega)
    refine ⟨_, _, _, _, rfl, hb, t1.congr fun i _ => ?_, t2.congr fun i _ => ?_⟩
    · unfold shG
      simp [kd]
    · unfold laG
      rw [if_neg (by omega), List.append_nil]
  · have ho := F.r.outM kd
    rw [hnk] at ho
    refine (newW_mealy m a1 c1 a2 c2 p K w kd).mono ?_
    rintro e w' ⟨u, b1, b2, rfl, hb, q1, q2, x1, x2, rfl, -, -, y1, y2⟩
    have t2 := name_tells w' m a1 c1 a2 c2 x1 x2 p K ls (n * K) y1 y2 (hp.below hb) hk hl (by omega) (by omega)
    have t3 := said_tells w' m a1 c1 a2 c2 b1 b2 _ _ (n * K) _ q1 q2 t2 (h2.below hb) (by omega) (fun i => Nat.le_trans (hle _) (by decide)) (fun i _ => (out_fit F).1) (fun i _ => (out_fit F).2) (gp.below hb)
    refine ⟨_, _, _, _, rfl, hb, (plain_tells w' n).congr fun i _ => ?_, t3.congr fun i _ => ?_⟩
    · unfold shG
      rw [if_neg (by omega)]
    · unfold laG
      rw [if_pos kd, List.append_assoc]

set_option maxRecDepth 100000 in
set_option maxHeartbeats 4000000 in
theorem ddot_any (m : Mc) (a1 : Option Addr) (c1 : Nat) (a2 : Option Addr) (c2 : Nat) (a : Option Addr) (c : Nat) (names : List Int) (w : World) (h1 : RdL .i64 w a1 m.nx) (h2 : RdL .i64 w a2 m.out) (hr : RdL .i32 w a names) (hn : m.nx.length ≤ maxLen) (ho : m.out.length ≤ maxLen) (gp : Gp w) :
    Calls Tryd.prog 9 #[mval m a1 c1 a2 c2, .slice a names.length c] w fun e w' => DtPost w w' m names e := by
  have b0 := ballo w (.cells #[.int .i64 m.kind, .int .i64 m.k, .int .i64 m.o, .int .i64 m.n, .slice a1 m.nx.length c1, .slice a2 m.out.length c2] 24)
  have B0 := Box.alloc w m a1 c1 a2 c2 24
  have hck := mcheck_any m a1 c1 a2 c2 _ (h1.below b0) (h2.below b0) hn ho
  unfold mval at hck ⊢
  by_cases hz : (mchV m).2 = 0
  rotate_left
  · have t1 : ((mchV m).2 != 0) = true := by simpa using hz
    have H := hide (dtV_bad (names := names) hz)
    clear hz
    obtain ⟨p0, p1, p2, p3, p4, p5⟩ := B0
    generalize (mchV m).2 = er at *
    go_enter Tryd.func9, Tryd.ntmps9
    go_wp2_with fail
    refine hck.mono ?_
    rintro e w1 ⟨rfl, hb1⟩
    go_wp2
    go_ret2
    exact DtPost.bad (unhide H) (bstep b0 hb1)
  rw [hz] at hck
  have hB1 := fun w1 (h : Below _ _ w1) => B0.below (w' := w1) h
  by_cases hk : (names.length : Int) = m.k
  rotate_left
  · have tk : ((names.length : Int) != m.k) = true := by simpa using hk
    have H := hide (dtV_arg hz hk)
    obtain ⟨p0, p1, p2, p3, p4, p5⟩ := B0
    clear hz hk
    go_enter Tryd.func9, Tryd.ntmps9
    go_wp2_with fail
    refine hck.mono ?_
    rintro e w1 ⟨rfl, hb1⟩
    obtain ⟨q0, q1, q2, q3, q4, q5⟩ := hB1 w1 hb1
    go_wp2
    go_ret2
    exact DtPost.bad (unhide H) (bstep b0 hb1)
  have F := full_of hz
  have HF := hide F
  have HZ := hide hz
  have k1 : names.length ≤ 64 := by have := F.r.k1; omega
  have k0 : 1 ≤ names.length := by have := F.r.k0; omega
  have tk : ((names.length : Int) != m.k) = false := by simpa using hk
  obtain ⟨N, hN⟩ := Int.eq_ofNat_of_zero_le (show 0 ≤ m.n by have := F.r.n0; omega)
  have HK := hide hk
  have HNN := hide hN
  have H1 := hide h1
  have H2 := hide h2
  have HR := hide hr
  have HG := hide gp
  have HB0 := hide b0
  have HB1 := hide hB1
  obtain ⟨p0, p1, p2, p3, p4, p5⟩ := B0
  clear hz hk F hN h1 h2 hr gp b0 hB1
  go_enter Tryd.func9, Tryd.ntmps9
  go_wp2_with fail
  refine hck.mono ?_
  rintro e w1 ⟨rfl, hb1⟩
  obtain ⟨q0, q1, q2, q3, q4, q5⟩ := unhide HB1 w1 hb1
  have b1 := bstep (unhide HB0) hb1
  have hal := allLabels_any a c names w1 ((unhide HR).below b1) k0 k1
  go_wp2_with fail
  refine hal.mono ?_
  rintro e w2 ⟨hb2, ⟨hne, rfl⟩ | ⟨he, lp, rfl, hlp⟩⟩
  · have H := hide (dtV_lab (unhide HZ) (unhide HK) (by rw [← unhide HK]; exact hne))
    have eK : m.k.toNat = names.length := by have := unhide HK; omega
    rw [eK] at H
    have t1 : (lbE names names.length != 0) = true := by simpa using hne
    have b2 := bstep b1 hb2
    clear hne eK
    generalize lbE names names.length = er at *
    go_wp2
    go_ret2
    exact DtPost.bad (unhide H) b2
  · have eK : m.k.toNat = names.length := by have := unhide HK; omega
    have H := hide (dtV_ok (unhide HZ) (unhide HK) (by rw [eK]; exact he))
    rw [eK] at H
    have b2 := bstep b1 hb2
    have hkK : m.k = (names.length : Int) := (unhide HK).symm
    have hnw := newW_any m a1 c1 a2 c2 lp N names.length (lbL names names.length) w2 (unhide HF) (unhide HNN) hkK ((unhide H2).below b2) hlp (lbL_len _ _) (lbL_le _ _) ((unhide HG).below b2)
    obtain ⟨s0, s1, s2, s3, s4, s5⟩ := unhide HB1 w2 (bstep hb1 hb2)
    unfold mval at hnw
    have HKK := hide hkK
    have HEK := hide eK
    clear he q0 q1 q2 q3 q4 q5 p0 p1 p2 p3 p4 p5 hkK eK
    go_wp2_with fail
    refine hnw.mono ?_
    rintro e w3 ⟨fs, lS, fl, lL, rfl, hb3, tS, tL⟩
    have b3 := bstep b2 hb3
    have F := unhide HF
    have hnk : m.nx.length = N * names.length := by
      have h := F.r.nx
      rw [unhide HNN, unhide HKK] at h
      have : ((m.nx.length : Nat) : Int) = ((N * names.length : Nat) : Int) := h
      exact Int.ofNat_inj.1 this
    have n1 : N ≤ 1024 := by have := F.r.n1; have := unhide HNN; omega
    have hmul : N * names.length ≤ 1024 * 64 := Nat.mul_le_mul n1 k1
    have hdv : ∀ i, i < N * names.length → i / names.length ≤ 9999 := fun i hi => by
      have : i / names.length < N := Nat.div_lt_of_lt_mul (by rw [Nat.mul_comm]; exact hi)
      omega
    have hLl : ∀ i, (laG m (lbL names names.length) names.length i).length ≤ 3000 := fun i => by
      unfold laG
      have h1 := lbL_le names names.length (i % names.length)
      have h2 := (out_fit F (i := i)).2
      split
      · simp only [List.length_append, List.length_cons, List.length_nil]; omega
      · simp only [List.length_append, List.length_nil]; omega
    have hSl : ∀ i, (shG m i).length ≤ 1100 := fun i => by
      unfold shG
      split <;> decide
    have hwr := write_any w3 m a1 c1 a2 c2 fs lS fl lL N names.length (xsD m N) (ysD m (lbL names names.length) N names.length) (unhide HNN) (unhide HKK) (by simp [xsD]) (by simp [ysD]) (by omega) (by omega)
      (all_le F names N names.length k0 (unhide HEK) (by have := unhide HNN; omega) _)
      (fun X hX i hi => by
        have hi' : i < N := by simpa [xsD] using hi
        rw [xsD_get hi', ← st_line]
        exact stateLine_any w3 m a1 c1 a2 c2 fs lS fl lL N (shG m) tS hSl (by omega) (fun j hj => itoa_natL (by omega)) ((unhide HG).below b3) X hX i hi')
      (fun X hX i hi => by
        have hi' : i < N * names.length := by simpa [ysD] using hi
        rw [ysD_get hi', ← wy_line m _ _ i (unhide HEK)]
        exact wayLine_any w3 m a1 c1 a2 c2 fs lS fl lL (N * names.length) names.length (laG m (lbL names names.length) names.length) tL ((unhide H1).below b3) (unhide HKK) k0 hLl (by omega) (by omega) (fun j hj => itoa_natL (hdv j hj)) (fun j _ => (nx_fit F).1) (fun j _ => (nx_fit F).2) ((unhide HG).below b3) X hX i hi')
    rw [all_text m _ N names.length k0 (unhide HEK) (by have := unhide HNN; omega)] at hwr
    unfold wrV at hwr ⊢
    clear F tS tL hdv hLl hSl hnk hmul hnw s0 s1 s2 s3 s4 s5
    go_wp2_with fail
    refine hwr.mono ?_
    rintro e w4 ⟨v, rfl, hown, hb4⟩
    have b4 := bstep b3 hb4
    have hs3 := b3.size
    have HO := hide hown
    obtain ⟨av, cv, rfl, -, -, -, -, -⟩ := hown.shape
    clear hown
    go_wp2
    go_ret2
    refine ⟨.slice av (zs (dtT m (lbL names names.length))).length cv, ?_, ?_, b4⟩
    · rw [unhide H]; rfl
    · rw [unhide H]
      exact (unhide HO).mono hs3

end Go.Proofs.YtbhdcgebcmgidaaDoor
