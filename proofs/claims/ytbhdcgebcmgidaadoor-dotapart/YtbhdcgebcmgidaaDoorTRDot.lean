/-
  What the reference's Dot of layer 9 returns.
-/
import Derived.Test.YtbhdcgebcmgidaaDoorTRLab
import Derived.Test.YtbhdcgebcmgidaaDoorK19
import Derived.Test.YtbhdcgebcmgidaaDoorRMCheck
import Derived.Test.YtbhdcgebcmgidaaDoorTStr
import Derived.Test.YtbhdcgebcmgidaaDoorK6
import Derived.Test.YtbhdcgebcmgidaaDoorGPush
import Derived.Test.YtbhdcgebcmgidaaDoorK1
import Derived.Test.YtbhdcgebcmgidaaDoorTFulS
import Derived.Deep.RegionHeldLaw
namespace Go.Proofs.YtbhdcgebcmgidaaDoor
open Go.RowKit

/-! ### Rows of strings -/
def stE (l : List UInt8) : List Value := [.string ⟨l.toArray⟩]
theorem stE_len (l : List UInt8) : (stE l).length = 1 := rfl
theorem eStr : EltG 9 47 (.string ⟨#[]⟩) 1 16 stE := ⟨Tryd.underlying47, by kernel_rfl, rfl, by decide, stE_len, fun x u hu => by
  simp [stE] at hu
  subst hu; rfl⟩
abbrev OwnS (w : World) (B : Nat) (v : Value) (L : List (List UInt8)) : Prop := OwnG 9 1 stE w B v L
theorem ba_app (a b : List UInt8) : (⟨a.toArray⟩ : ByteArray) ++ ⟨b.toArray⟩ = ⟨(a ++ b).toArray⟩ := by
  rw [ByteArray.ext_iff]; simp
theorem lit_str (w : World) (l : List UInt8) (s : ByteArray) (t : TypeId) (hs : s = ⟨l.toArray⟩) : ∀ j u, (stE l)[j]? = some u → (w.alloc (.cells #[.string s] t)).cell? ⟨w.heap.size, j, none⟩ = some u := fun j u h => by
  subst hs
  rw [World.cell?_alloc_new, ← Array.getElem?_toList]; exact h
theorem OwnS.two (w : World) (B : Nat) (x y : List UInt8) (hb : B ≤ w.heap.size) : OwnS (w.alloc (.cells #[.string ⟨x.toArray⟩, .string ⟨y.toArray⟩] 9)) B (.slice (some ⟨w.heap.size, 0, none⟩) 2 2) [x, y] := by
  unfold OwnS OwnG
  exact World.ownsRow_lit w #[.string ⟨x.toArray⟩, .string ⟨y.toArray⟩] 2 hb (by unfold maxLen; simp) rfl
theorem OwnS.at {w : World} {B : Nat} {v : Value} {L : List (List UInt8)} (h : OwnS w B v L) {i : Nat} (hi : i < L.length) : ∃ g cap, v = .slice (some ⟨g, 0, none⟩) L.length cap ∧ B ≤ g ∧ g < w.heap.size ∧ ∀ j, j < L.length → w.cell? ⟨g, j, none⟩ = some (.string ⟨(L.getD j []).toArray⟩) := by
  obtain ⟨g, cap, e, -, -, h1, h2, h3, -⟩ := OwnG.pos stE_len [] h (by omega)
  refine ⟨g, cap, e, h1, h2, fun j hj => ?_⟩
  have := h3 j 0 hj (by decide)
  rw [Nat.mul_one, Nat.add_zero] at this
  exact this
theorem ownS_blw {w w0 : World} {B : Nat} {v : Value} {L : List (List UInt8)} (h : OwnS w B v L) (hb : Below B w0 w) {w' : World} (hg : w.grownBy w' v.ownBlock) (hB : B ≤ w.heap.size) : Below B w0 w' :=
  hb.trans ((Below.refl B w).grown hg hB fun _ e => (OwnG.lt h e).1)
theorem itoa_le {x : Int} (h0 : 0 ≤ x) (h1 : x ≤ 9999) : (Lib.itoa x).length ≤ 21 := Lib.itoa_length_le x (by omega) (by omega)

theorem step_cl1 {ops : Array Oper} {o : Oper} {a : Act} {w : World} {K : Act → World → Prop} {Q : Exit → Act → World → Prop} {F : Prop}
    (hg : o.guard = none) (f : Nat) (x : Operand) (ts : Array TypeId) (ho : o.op = .call { callee := .value (.func f), args := #[x], argTypes := ts })
    {fn : Func} (hfn : Tryd.prog.funcs[f]? = some fn) (hname : (fn.name == "runtime.NumGoroutine") = false) (hbody : fn.body.isNone = false)
    (u : Value) (hx : a.eval x = u) {R : Ending → World → Prop} (hc : Calls Tryd.prog f #[u] w R) (h : ∀ e w', R e w' → ∃ v, e = .returned v ∧ K (a.put o.dst v) w') :
    if Region.wanted o (yielded ops a.tmps) = true then Oper.wp Tryd.prog o a w K Q else F :=
  step_call hg f #[x] ts ho hfn hname hbody #[u] (by simp [hx]) hc h
theorem step_pushS {ops : Array Oper} {o : Oper} {a : Act} {w : World} {K : Act → World → Prop} {Q : Exit → Act → World → Prop} {F : Prop}
    (hg : o.guard = none) (x y : Operand) (ho : o.op = .call { callee := .builtin .append, args := #[x, y], argTypes := #[29, 9] })
    (B : Nat) (v : Value) (l : List UInt8) (hs : a.eval x = v) (hown : OwnL .u8 5 w B v (zs l)) (s : ByteArray) (hx : a.eval y = .string s)
    (hbytes : l.length + s.size ≤ 140737488355328) (hbase : B ≤ w.heap.size)
    (h : ∀ v' w', OwnL .u8 5 w' B v' (zs (l ++ s.data.toList)) → Below B w w' → w.grownBy w' v.ownBlock → (∀ i, v'.ownBlock = some i → v.ownBlock = some i ∨ i = w.heap.size) → K (a.put o.dst v') w') :
    if Region.wanted o (yielded ops a.tmps) = true then Oper.wp Tryd.prog o a w K Q else F := by
  have hw : Region.wanted o (yielded ops a.tmps) = true := by simp [Region.wanted, hg]
  rw [if_pos hw]
  obtain ⟨v', w', hrun, r1, r2, r3, r4⟩ := run_pushS (w := w) o.type B v l hown s hbytes hbase
  unfold Oper.wp
  simp [execOp, ho, resolve, invoke, builtin, hs, hx, hrun, Result.andThen]
  exact h v' w' r1 r2 r3 r4

theorem ba_line (T U Q : List UInt8) : (((((⟨T.toArray⟩ : ByteArray) ++ ⟨dArr.toArray⟩) ++ ⟨U.toArray⟩) ++ ⟨dLab.toArray⟩) ++ ⟨Q.toArray⟩) ++ ⟨dEnd.toArray⟩ = ⟨(T ++ dArr ++ U ++ dLab ++ Q ++ dEnd).toArray⟩ := by simp only [ba_app]
theorem ba_line2 (T U Q V : List UInt8) : (((((⟨T.toArray⟩ : ByteArray) ++ ⟨dArr.toArray⟩) ++ ⟨U.toArray⟩) ++ ⟨dLab.toArray⟩) ++ ((⟨Q.toArray⟩ ++ ⟨[47].toArray⟩) ++ ⟨V.toArray⟩)) ++ ⟨dEnd.toArray⟩ = ⟨(T ++ dArr ++ U ++ dLab ++ (Q ++ [47] ++ V) ++ dEnd).toArray⟩ := by simp only [ba_app]
theorem lb_le (names : List Int) (x : Int) : (lbV names x).1.length ≤ 5 := by
  have h : ∀ r, (Lib.encodeRune r).length ≤ 4 := fun r => by unfold Lib.encodeRune; rw [List.length_map]; exact (Lib.encodeRuneZ_length r).2
  unfold lbV
  generalize names.getD x.toNat 0 = r
  have := h r
  split
  · simp
  · split
    · simp
    · split
      · simp; omega
      · simp; omega
theorem lbL_le (names : List Int) (k x : Nat) : ((lbL names k).getD x []).length ≤ 5 := by
  by_cases h : x < k
  · have e : (lbL names k).getD x [] = (lbV names (x : Int)).1 := by simp [lbL, h]
    rw [e]; exact lb_le _ _
  · rw [List.getD_eq_getElem?_getD, List.getElem?_eq_none (by rw [lbL_len]; omega)]; simp

theorem ind_le {n : Nat} : ∀ {l : List (List UInt8)}, (∀ x ∈ l, x.length ≤ n) → (ind l).length ≤ l.length * (n + 3)
  | [], _ => by simp [ind]
  | x :: l, h => by
    have h1 := h x List.mem_cons_self
    have h2 := ind_le (l := l) fun y hy => h y (List.mem_cons_of_mem _ hy)
    rw [ind_cons, List.length_cons, Nat.add_mul]
    simp only [List.length_append, List.length_cons, List.length_nil]
    omega
theorem dtL_le {m : Mc} (F : Full m) (names : List Int) (k : Nat) : ∀ x ∈ dtL m (lbL names k), x.length ≤ 90 := fun x hx => by
  have n1 := F.r.n1
  have n0 := F.r.n0
  have o1 := F.o1
  have hN : ∀ s, s < m.n.toNat → (Lib.itoa (s : Int)).length ≤ 21 := fun s hs => itoa_le (Int.natCast_nonneg s) (by omega)
  have hX : ∀ i, (Lib.itoa (m.nx.getD i 0)).length ≤ 21 := fun i => by
    refine itoa_le (F.nxN i) ?_
    by_cases h : i < m.nx.length
    · have := (F.r.st i h).2; omega
    · rw [List.getD_eq_getElem?_getD, List.getElem?_eq_none (by omega)]; decide
  have hO : ∀ i, (Lib.itoa (m.out.getD i 0)).length ≤ 21 := fun i => by
    refine itoa_le (F.outN i) ?_
    by_cases h : i < m.out.length
    · have := (F.r.so i h).2; omega
    · rw [List.getD_eq_getElem?_getD, List.getElem?_eq_none (by omega)]; decide
  unfold dtL dtW at hx
  simp only [List.mem_append, List.mem_map, List.mem_flatMap, List.mem_cons, List.not_mem_nil, or_false, List.mem_range] at hx
  rcases hx with ((hx | ⟨s, hs, rfl⟩) | rfl) | ⟨s, hs, y, -, rfl⟩
  · rcases hx with rfl | rfl <;> decide
  · have := hN s hs
    unfold dtS
    rw [List.length_append]
    split
    · have : dTwo.length = 21 := rfl
      omega
    · have : dOne.length = 15 := rfl
      omega
  · decide
  · have a1 := hN s hs
    have a2 := hX (s * m.k.toNat + y)
    have a3 := hO (s * m.k.toNat + y)
    have a4 := lbL_le names k y
    have b1 : dArr.length = 4 := rfl
    have b2 : dLab.length = 9 := rfl
    have b3 : dEnd.length = 2 := rfl
    have b4 : (dtO m s y).length ≤ 22 := by
      unfold dtO
      split
      · simp only [List.length_append, List.length_cons, List.length_nil]; omega
      · simp
    unfold dtA
    simp only [List.length_append]
    omega
theorem ind_take {l : List (List UInt8)} {i : Nat} (hi : i < l.length) : ind (l.take (i + 1)) = ind (l.take i) ++ [32, 32] ++ l.getD i [] ++ [10] := by
  rw [List.take_add_one, List.getElem?_eq_getElem hi, ind_app]
  simp [ind, hi]
theorem rd_gr {q : IntKind} {w w' : World} {a : Option Addr} {l : List Int} {r : Option Nat} (h : RdL q w a l) (hg : w.grownBy w' r) (hx : ∀ x, a = some x → r ≠ some x.block) : RdL q w' a l := by
  rcases h with h | ⟨b, off, rfl, hc⟩
  · exact .inl h
  · refine .inr ⟨b, off, rfl, fun i hi => ?_⟩
    have hlt := World.block_lt_of_cell? w _ (hc i hi)
    rw [World.cell?_of_block (w := w) (w' := w') (a := ⟨b, off + i, none⟩) (hg.block b hlt fun e => hx _ rfl e.symm)]
    exact hc i hi

/-- What Dot leaves. -/
def DtPost (w w' : World) (m : Mc) (names : List Int) (e : Ending) : Prop :=
  ∃ v, e = .returned (.tuple #[v, .int .i64 (dtV m names).2]) ∧ OwnL .u8 5 w' w.heap.size v (zs (dtV m names).1) ∧ Below w.heap.size w w'
theorem DtPost.bad {w w' : World} {m : Mc} {names : List Int} {er : Int} (h : dtV m names = ([], er)) (hb : Below w.heap.size w w') : DtPost w w' m names (.returned (.tuple #[.slice none 0 0, .int .i64 er])) :=
  ⟨.slice none 0 0, by rw [h], by rw [h]; exact OwnL.nil _ _ _ _, hb⟩

set_option maxRecDepth 100000 in
set_option maxHeartbeats 4000000 in
theorem rdot_any (m : Mc) (a1 : Option Addr) (c1 : Nat) (a2 : Option Addr) (c2 : Nat) (a : Option Addr) (c : Nat) (names : List Int) (w : World) (h1 : RdL .i64 w a1 m.nx) (h2 : RdL .i64 w a2 m.out) (hr : RdL .i32 w a names) (hn : m.nx.length ≤ maxLen) (ho : m.out.length ≤ maxLen) :
    Calls Tryd.prog 10 #[mval m a1 c1 a2 c2, .slice a names.length c] w fun e w' => DtPost w w' m names e := by
  have hck := rmcheck_any m a1 c1 a2 c2 _ (h1.below (ballo w (.cells #[.int .i64 m.kind, .int .i64 m.k, .int .i64 m.o, .int .i64 m.n, .slice a1 m.nx.length c1, .slice a2 m.out.length c2] 24))) (h2.below (ballo _ _)) hn ho
  have B0 := Box.alloc w m a1 c1 a2 c2 24
  have b0 := ballo w (.cells #[.int .i64 m.kind, .int .i64 m.k, .int .i64 m.o, .int .i64 m.n, .slice a1 m.nx.length c1, .slice a2 m.out.length c2] 24)
  unfold mval at hck ⊢
  by_cases hz : (mchV m).2 = 0
  rotate_left
  · have tz := ne_bne hz
    have H := hide (dtV_bad (names := names) hz)
    clear hz
    go_enter Tryd.func10, Tryd.ntmps10
    go_wp2_with fail
    refine hck.mono ?_
    rintro e w1 ⟨rfl, hb1⟩
    go_wp2
    go_ret2
    exact DtPost.bad (unhide H) (bstep b0 hb1)
  rw [hz] at hck
  by_cases hk : (names.length : Int) = m.k
  rotate_left
  · have tk : ((names.length : Int) != m.k) = true := by simpa using hk
    have H := hide (dtV_arg hz hk)
    clear hz hk
    go_enter Tryd.func10, Tryd.ntmps10
    go_wp2_with fail
    refine hck.mono ?_
    rintro e w1 ⟨rfl, hb1⟩
    obtain ⟨p0, p1, p2, p3, p4, p5⟩ := B0.below hb1
    go_wp2
    go_ret2
    exact DtPost.bad (unhide H) (bstep b0 hb1)
  have F := full_of hz
  have HF := hide F
  have HZ := hide hz
  have HK := hide hk
  have k1 : names.length ≤ 64 := by have := F.r.k1; omega
  have k0 : 1 ≤ names.length := by have := F.r.k0; omega
  obtain ⟨N, hN⟩ := Int.eq_ofNat_of_zero_le (show 0 ≤ m.n by have := F.r.n0; omega)
  have hN1 : N ≤ 1024 := by have := F.r.n1; omega
  have hN0 : 1 ≤ N := by have := F.r.n0; omega
  have HN := hide hN
  clear F hz hN
  go_enter Tryd.func10, Tryd.ntmps10
  go_wp2_with fail
  refine hck.mono ?_
  rintro e w1 ⟨rfl, hb1⟩
  have B1 := B0.below hb1
  have b1 := bstep b0 hb1
  obtain ⟨p0, p1, p2, p3, p4, p5⟩ := id B1
  rw [← hk] at p1
  have tk : ((names.length : Int) != (names.length : Int)) = false := by simp
  clear hk hck B0 b0 hb1
  go_wp2
  go_loopw [8, 9] (fun v x wx => ∃ X : Nat, x = .int .i64 (X : Int) ∧ X ≤ names.length ∧ Hid (lbE names X = 0) ∧ OwnS wx w1.heap.size v (lbL names X) ∧ Below w1.heap.size w1 wx) (fun _ x _ => names.length - (intOf x).toNat)
  case atStart => exact ⟨0, rfl, Nat.zero_le _, rfl, OwnG.nil _ _, Below.refl _ _⟩
  case round =>
    obtain ⟨X, rfl, hX, hE, hO, hB⟩ := hrel
    clear p0 p1 p2 p3 p4 p5
    have HBx := hide (B1.below hB)
    obtain ⟨p0, p1, p2, p3, p4, p5⟩ := id (unhide HBx)
    rw [← unhide HK] at p1
    have hsB := hB.size
    by_cases hlt : X < names.length
    · have hlt' : (X : Int) < (names.length : Int) := by omega
      have hla := rlabel_any a c names (X : Int) wr (hr.below (bstep b1 hB))
      have hEs := lbE_go (unhide hE)
      have hLs := hide (lbL_succ names X)
      have hlen := lbL_len names X
      by_cases he : (lbV names (X : Int)).2 = 0
      · rw [he] at hla hEs
        have HEs := hide hEs
        generalize (lbV names (X : Int)).1 = S at *
        generalize lbL names X = L at *
        clear hEs he hE
        go_wp2_with fail
        refine hla.mono ?_
        rintro e w2 ⟨rfl, hb2⟩
        have hO2 : OwnS w2 w1.heap.size u8 L := OwnG.below hO hb2
        have hB2 : Below w1.heap.size w1 w2 := bstep hB hb2
        have hs2 := hb2.size
        clear hla p0 p1 p2 p3 p4 p5
        go_wp2_with (at_builtin; refine wplG_push eStr rfl (.tmp 47) (.tmp 49) rfl w1.heap.size _ L rfl (OwnG.below hO2 (ballo _ _)) w2.heap.size 1 S rfl (lit_str _ S _ _ rfl) (by omega) (by unfold maxLen; omega) (by rw [World.size_alloc]; omega) ?_; intro v3 w3 ho3 hg3 _; have hB3 := ownS_blw (OwnG.below hO2 (ballo _ _)) (balloc hB2 _) hg3 (by rw [World.size_alloc]; omega))
        go_roundw
        case rel => exact ⟨X + 1, by go_num, by omega, HEs, by rw [unhide hLs]; exact ho3, hB3⟩
        case measure => simp [intOf]; omega
      · have hne : ((lbV names (X : Int)).2 != 0) = true := by simpa using he
        have hup : lbE names m.k.toNat = (lbV names (X : Int)).2 := by
          rw [lbE_up (k := X + 1) (by rw [hEs]; exact he) m.k.toNat (by have := unhide HK; omega), hEs]
        have H := hide (dtV_lab (unhide HZ) (unhide HK) (by rw [hup]; exact he))
        rw [hup] at H
        clear hup he hE hEs hLs
        generalize (lbV names (X : Int)).2 = er at *
        go_wp2_with fail
        refine hla.mono ?_
        rintro e w2 ⟨rfl, hb2⟩
        go_wp2
        try rw [Exit.noGoto_ret]
        go_ret2
        exact DtPost.bad (unhide H) (bstep (bstep b1 hB) hb2)
    · have hXe : names.length = X := by omega
      subst hXe
      have hge : ¬ ((names.length : Int) < (names.length : Int)) := by omega
      go_wp2
      rename World => w2
      have hEN := hE
      have HLB := hide hO
      have hO2 := OwnS.two w2 w2.heap.size dRank dStart (Nat.le_refl _)
      have hB2 := ballo w2 (.cells #[.string ⟨dRank.toArray⟩, .string ⟨dStart.toArray⟩] 9)
      have b2 := bstep b1 hB
      have HBw := HBx
      have hsw2 : w.heap.size < w2.heap.size := World.block_lt_of_cell? w2 _ p0
      have HO2 := hide hO2
      have HB2 := hide hB2
      clear hO hB hE hX hlt hge hO2 hB2 hsB HBx B1 b1
      go_loopw [12, 13] (fun v s wx => ∃ S : Nat, s = .int .i64 (S : Int) ∧ S ≤ N ∧ OwnS wx w2.heap.size v ([dRank, dStart] ++ (List.range S).map (dtS m)) ∧ Below w2.heap.size w2 wx) (fun _ s _ => N - (intOf s).toNat)
      case atStart => exact ⟨0, rfl, Nat.zero_le _, unhide HO2, unhide HB2⟩
      case round =>
      obtain ⟨S, rfl, hS, hO, hB⟩ := hrel
      clear HO2 HB2 p0 p1 p2 p3 p4 p5
      have HBx := hide ((unhide HBw).below hB)
      obtain ⟨p0, p1, p2, p3, p4, p5⟩ := id (unhide HBx)
      rw [← unhide HK] at p1
      rw [unhide HN] at p3
      have hsB := hB.size
      have hlL : ([dRank, dStart] ++ (List.range S).map (dtS m)).length = S + 2 := by simp
      by_cases hlt : S < N
      · have hlt' : (S : Int) < (N : Int) := by omega
        have hT := itoa_le (Int.natCast_nonneg S) (by omega)
        obtain ⟨L, hL⟩ : ∃ L, L = [dRank, dStart] ++ (List.range S).map (dtS m) := ⟨_, rfl⟩
        rw [← hL] at hO hlL
        by_cases hk1 : m.kind = 1
        · obtain ⟨bo, oo, ro, hco⟩ := ((h2.below b2).below hB).at (i := S) (by have := (unhide HF).r.outD hk1; have := unhide HN; omega)
          have hol : S < m.out.length := by have := (unhide HF).r.outD hk1; have := unhide HN; omega
          have hol' : (S : Int) < (m.out.length : Int) := by omega
          have hcS := hco S hol
          subst ro
          have t1 : (m.kind == 1) = true := by simpa using hk1
          by_cases ho1 : m.out.getD S 0 = 1
          · have t2 : (m.out.getD S 0 == 1) = true := by simpa using ho1
            have EL : Hid (dtS m S = Lib.itoa (S : Int) ++ dTwo) := by
              show _ = _; unfold dtS; rw [if_pos ⟨hk1, ho1⟩]
            have HLL : Hid ([dRank, dStart] ++ (List.range (S + 1)).map (dtS m) = L ++ [Lib.itoa (S : Int) ++ dTwo]) := by
              show _ = _; rw [List.range_succ, List.map_append, ← List.append_assoc, ← hL, ← unhide EL]; rfl
            clear hL EL
            clear hk1 ho1 hco
            generalize m.out.getD S 0 = z at *
            go_wp2_with fail
            refine (rnum_any (S : Int) wr (by omega) (by omega)).mono ?_
            rintro e w4 ⟨rfl, hb4⟩
            generalize Lib.itoa (S : Int) = T at *
            have hO4 : OwnS w4 w2.heap.size u12 L := OwnG.below hO hb4
            have hB4 : Below w2.heap.size w2 w4 := bstep hB hb4
            have hs4 := hb4.size
            clear p0 p1 p2 p3 p4 p5
            go_wp2_with (at_builtin; refine wplG_push eStr rfl (.tmp 69) (.tmp 73) rfl w2.heap.size _ L rfl (OwnG.below hO4 (ballo _ _)) w4.heap.size 1 (T ++ dTwo) rfl (lit_str _ _ _ _ (ba_app T dTwo)) (by omega) (by unfold maxLen; omega) (by rw [World.size_alloc]; omega) ?_; intro v5 w5 ho5 hg5 _; have hB5 := ownS_blw (OwnG.below hO4 (ballo _ _)) (balloc hB4 _) hg5 (by rw [World.size_alloc]; omega))
            go_roundw
            case rel => exact ⟨S + 1, by go_num, by omega, by rw [unhide HLL]; exact ho5, hB5⟩
            case measure => simp [intOf]; omega
          · have t2 : (m.out.getD S 0 == 1) = false := by simpa using ho1
            have EL : Hid (dtS m S = Lib.itoa (S : Int) ++ dOne) := by
              show _ = _; unfold dtS; rw [if_neg (fun c => ho1 c.2)]
            have HLL : Hid ([dRank, dStart] ++ (List.range (S + 1)).map (dtS m) = L ++ [Lib.itoa (S : Int) ++ dOne]) := by
              show _ = _; rw [List.range_succ, List.map_append, ← List.append_assoc, ← hL, ← unhide EL]; rfl
            clear hL EL
            clear hk1 ho1 hco
            generalize m.out.getD S 0 = z at *
            go_wp2_with fail
            refine (rnum_any (S : Int) wr (by omega) (by omega)).mono ?_
            rintro e w4 ⟨rfl, hb4⟩
            generalize Lib.itoa (S : Int) = T at *
            have hO4 : OwnS w4 w2.heap.size u12 L := OwnG.below hO hb4
            have hB4 : Below w2.heap.size w2 w4 := bstep hB hb4
            have hs4 := hb4.size
            clear p0 p1 p2 p3 p4 p5
            go_wp2_with (at_builtin; refine wplG_push eStr rfl (.tmp 75) (.tmp 79) rfl w2.heap.size _ L rfl (OwnG.below hO4 (ballo _ _)) w4.heap.size 1 (T ++ dOne) rfl (lit_str _ _ _ _ (ba_app T dOne)) (by omega) (by unfold maxLen; omega) (by rw [World.size_alloc]; omega) ?_; intro v5 w5 ho5 hg5 _; have hB5 := ownS_blw (OwnG.below hO4 (ballo _ _)) (balloc hB4 _) hg5 (by rw [World.size_alloc]; omega))
            go_roundw
            case rel => exact ⟨S + 1, by go_num, by omega, by rw [unhide HLL]; exact ho5, hB5⟩
            case measure => simp [intOf]; omega
        · have t1 : (m.kind == 1) = false := by simpa using hk1
          have EL : Hid (dtS m S = Lib.itoa (S : Int) ++ dOne) := by
            show _ = _; unfold dtS; rw [if_neg (fun c => hk1 c.1)]
          have HLL : Hid ([dRank, dStart] ++ (List.range (S + 1)).map (dtS m) = L ++ [Lib.itoa (S : Int) ++ dOne]) := by
            show _ = _; rw [List.range_succ, List.map_append, ← List.append_assoc, ← hL, ← unhide EL]; rfl
          clear hL EL
          clear hk1
          go_wp2_with fail
          refine (rnum_any (S : Int) wr (by omega) (by omega)).mono ?_
          rintro e w4 ⟨rfl, hb4⟩
          generalize Lib.itoa (S : Int) = T at *
          have hO4 : OwnS w4 w2.heap.size u12 L := OwnG.below hO hb4
          have hB4 : Below w2.heap.size w2 w4 := bstep hB hb4
          have hs4 := hb4.size
          clear p0 p1 p2 p3 p4 p5
          go_wp2_with (at_builtin; refine wplG_push eStr rfl (.tmp 75) (.tmp 79) rfl w2.heap.size _ L rfl (OwnG.below hO4 (ballo _ _)) w4.heap.size 1 (T ++ dOne) rfl (lit_str _ _ _ _ (ba_app T dOne)) (by omega) (by unfold maxLen; omega) (by rw [World.size_alloc]; omega) ?_; intro v5 w5 ho5 hg5 _; have hB5 := ownS_blw (OwnG.below hO4 (ballo _ _)) (balloc hB4 _) hg5 (by rw [World.size_alloc]; omega))
          go_roundw
          case rel => exact ⟨S + 1, by go_num, by omega, by rw [unhide HLL]; exact ho5, hB5⟩
          case measure => simp [intOf]; omega
      · have hSe : N = S := by omega
        subst hSe
        have hge : ¬ ((N : Int) < (N : Int)) := by omega
        go_wp2_with (at_builtin; refine wplG_push eStr rfl (.tmp 81) (.tmp 82) rfl w2.heap.size _ ([dRank, dStart] ++ (List.range N).map (dtS m)) rfl (OwnG.below hO (ballo _ _)) wr.heap.size 1 dGo rfl (lit_str _ dGo _ _ rfl) (by omega) (by unfold maxLen; omega) (by rw [World.size_alloc]; omega) ?_; intro v3 w3 ho3 hg3 _; have hB3 := ownS_blw (OwnG.below hO (ballo _ _)) (balloc hB _) hg3 (by rw [World.size_alloc]; omega))
        have hl3 : ([dRank, dStart] ++ (List.range N).map (dtS m) ++ [dGo]).length = N + 3 := by simp
        obtain ⟨L0, hL0⟩ : ∃ L0, L0 = [dRank, dStart] ++ (List.range N).map (dtS m) ++ [dGo] := ⟨_, rfl⟩
        rw [← hL0] at ho3 hl3
        have HL0 := hide hL0
        have HO3 := hide ho3
        have HB3 := hide hB3
        have hkt : m.k.toNat = names.length := by have := unhide HK; omega
        have HKT := hide hkt
        obtain ⟨gl, cl, el, -, hgl, hcl⟩ := OwnS.at (unhide HLB) (i := 0) (by rw [lbL_len]; omega)
        subst el
        rw [lbL_len]
        have HCL := hide hcl
        clear hO hB ho3 hB3 hg3 hL0 hlL hlt hge hkt hcl p0 p1 p2 p3 p4 p5 HBx hsB
        go_loopw [12, 14] (fun v s wx => ∃ S : Nat, s = .int .i64 (S : Int) ∧ S ≤ N ∧ OwnS wx w2.heap.size v (L0 ++ dtW m (lbL names names.length) S) ∧ Below w2.heap.size w2 wx) (fun _ s _ => N - (intOf s).toNat)
        case atStart => exact ⟨0, rfl, Nat.zero_le _, by show OwnS _ _ _ (L0 ++ []); rw [List.append_nil]; exact unhide HO3, unhide HB3⟩
        case round =>
          obtain ⟨S, rfl, hS, hO, hB⟩ := hrel
          clear HO3 HB3
          have hsB := hB.size
          have HBx := hide ((unhide HBw).below hB)
          obtain ⟨p0, p1, p2, p3, p4, p5⟩ := id (unhide HBx)
          rw [← unhide HK] at p1
          rw [unhide HN] at p3
          by_cases hlt : S < N
          · have hlt' : (S : Int) < (N : Int) := by omega
            have HO := hide hO
            have HB := hide hB
            clear hO hB
            go_wp2
            clear p0 p1 p2 p3 p4 p5 HBx
            go_loopw [12, 15] (fun v x wx => ∃ X : Nat, x = .int .i64 (X : Int) ∧ X ≤ names.length ∧ OwnS wx w2.heap.size v (L0 ++ dtW m (lbL names names.length) S ++ (List.range X).map (dtA m (lbL names names.length) S)) ∧ Below w2.heap.size w2 wx) (fun _ x _ => names.length - (intOf x).toNat)
            case atStart => exact ⟨0, rfl, Nat.zero_le _, by show OwnS _ _ _ (L0 ++ dtW m (lbL names names.length) S ++ []); rw [List.append_nil]; exact unhide HO, unhide HB⟩
            case round =>
              obtain ⟨X, rfl, hX, hO, hB⟩ := hrel
              clear HO HB hsB
              have hsB := hB.size
              have HBx := hide ((unhide HBw).below hB)
              obtain ⟨p0, p1, p2, p3, p4, p5⟩ := id (unhide HBx)
              rw [← unhide HK] at p1
              rw [unhide HN] at p3
              by_cases hx : X < names.length
              · have hx' : (X : Int) < (names.length : Int) := by omega
                have hlab : wr.cell? ⟨gl, X, none⟩ = some (.string ⟨((lbL names names.length).getD X []).toArray⟩) := by
                  rw [hB.cell (by exact hgl)]; exact unhide HCL X (by rw [lbL_len]; exact hx)
                have hlb := lbL_le names names.length X
                obtain ⟨P, hP⟩ : ∃ P, P = S * names.length + X := ⟨_, rfl⟩
                obtain ⟨SK, hSK⟩ : ∃ SK, SK = S * names.length := ⟨_, rfl⟩
                have hSKl : SK ≤ 1024 * 64 := by rw [hSK]; exact Nat.mul_le_mul (by omega) k1
                have hPN : P < N * names.length := by
                  rw [hP]
                  have : (S + 1) * names.length ≤ N * names.length := Nat.mul_le_mul_right _ hlt
                  rw [Nat.add_mul] at this; omega
                have hNK : ((N * names.length : Nat) : Int) = m.n * m.k := by rw [unhide HN, ← unhide HK, Int.natCast_mul]
                have hPl : P < m.nx.length := by have := (unhide HF).r.nx; omega
                have hPl' : (P : Int) < (m.nx.length : Int) := by omega
                have wA : IntKind.i64.wrap ((S : Int) * (names.length : Int)) = (SK : Int) := by
                  rw [hSK, Int.natCast_mul, IntKind.wrap_i64]; rw [hSK] at hSKl; have : ((S * names.length : Nat) : Int) = (S : Int) * (names.length : Int) := Int.natCast_mul _ _; omega
                have wB : IntKind.i64.wrap ((SK : Int) + (X : Int)) = (P : Int) := by rw [IntKind.wrap_i64]; omega
                have hst := (unhide HF).r.st P hPl
                rw [unhide HN] at hst
                obtain ⟨bx, ox, ra, hcx⟩ := ((h1.below b2).below hB).at hPl
                have hcP := hcx P hPl
                subst ra
                have hEA : Hid (L0 ++ dtW m (lbL names names.length) S ++ (List.range (X + 1)).map (dtA m (lbL names names.length) S) = L0 ++ dtW m (lbL names names.length) S ++ (List.range X).map (dtA m (lbL names names.length) S) ++ [Lib.itoa (S : Int) ++ dArr ++ Lib.itoa (m.nx.getD P 0) ++ dLab ++ ((lbL names names.length).getD X [] ++ dtO m S X) ++ dEnd]) := by
                  show _ = _
                  rw [List.range_succ, List.map_append, ← List.append_assoc]
                  show _ ++ [dtA m (lbL names names.length) S X] = _
                  unfold dtA
                  rw [unhide HKT, ← hP]
                have hlen : (L0 ++ dtW m (lbL names names.length) S ++ (List.range X).map (dtA m (lbL names names.length) S)).length ≤ 70000 := by
                  simp only [List.length_append, List.length_map, List.length_range, dtW_len, unhide HKT]
                  omega
                have hT := itoa_le (Int.natCast_nonneg S) (by omega)
                have hU := itoa_le hst.1 (by omega)
                clear hcx
                generalize (L0 ++ dtW m (lbL names names.length) S ++ (List.range X).map (dtA m (lbL names names.length) S)) = L at *
                generalize (lbL names names.length).getD X [] = LB at *
                by_cases hk2 : m.kind = 2
                · have t2 : (m.kind == 2) = true := by simpa using hk2
                  have HO' : Hid (dtO m S X = [47] ++ Lib.itoa (m.out.getD P 0)) := by show _ = _; unfold dtO; rw [if_pos hk2, unhide HKT, ← hP]
                  have hPo : P < m.out.length := by have := (unhide HF).r.outM hk2; omega
                  have hPo' : (P : Int) < (m.out.length : Int) := by omega
                  have hso := (unhide HF).r.so P hPo
                  have ho64 := (unhide HF).o1
                  have hV := itoa_le hso.1 (by omega)
                  obtain ⟨by', oy, ry, hcy⟩ := ((h2.below b2).below hB).at hPo
                  have hcO := hcy P hPo
                  subst ry
                  rw [unhide HO'] at hEA
                  clear hk2 HO' hP hSK hNK hcy
                  obtain ⟨z, hz⟩ : ∃ z, z = m.out.getD P 0 := ⟨_, rfl⟩
                  rw [← hz] at hso hV hEA hcO
                  clear hz
                  have HnO := hide (fun wz => rnum_any z wz (by omega) (by omega))
                  obtain ⟨t, ht⟩ : ∃ t, t = m.nx.getD P 0 := ⟨_, rfl⟩
                  rw [← ht] at hst hU hEA hcP
                  have Ht : Hid (m.nx.getD P 0 = t) := ht.symm
                  clear ht
                  have HnS := hide (fun wz => rnum_any (S : Int) wz (by omega) (by omega))
                  have HnT := hide (fun wz => rnum_any t wz (by omega) (by omega))
                  have HPC : Hid (∀ wz, Below w2.heap.size w2 wz → wz.cell? ⟨w.heap.size, 1, none⟩ = some (.int .i64 (names.length : Int)) ∧ wz.cell? ⟨w.heap.size, 4, none⟩ = some (.slice (some ⟨bx, ox, none⟩) m.nx.length c1) ∧ wz.cell? ⟨bx, ox + P, none⟩ = some (.int .i64 t)) := fun wz hz => by
                    obtain ⟨-, q1, -, -, q4, -⟩ := (unhide HBw).below hz
                    rw [← unhide HK] at q1
                    refine ⟨q1, q4, ?_⟩
                    obtain ⟨b', o', e', hc'⟩ := ((h1.below b2).below hz).at hPl
                    cases e'
                    rw [hc' P hPl, unhide Ht]
                  generalize Lib.itoa (S : Int) = T at *
                  generalize Lib.itoa t = U at *
                  generalize Lib.itoa z = V at *
                  have z1 : ¬ 9223372036854775807 < T.length + 4 := by omega
                  have z2 : ¬ 9223372036854775807 < T.length + 4 + U.length := by omega
                  have z3 : ¬ 9223372036854775807 < T.length + 4 + U.length + 9 := by omega
                  have z4 : ¬ 9223372036854775807 < T.length + 4 + U.length + 9 + (LB.length + 1 + V.length) := by omega
                  have z5 : ¬ 9223372036854775807 < T.length + 4 + U.length + 9 + (LB.length + 1 + V.length) + 2 := by omega
                  have hX1 : X + 1 ≤ names.length := by omega
                  have y1 : ¬ 9223372036854775807 < LB.length + 1 := by omega
                  have y2 : ¬ 9223372036854775807 < LB.length + 1 + V.length := by omega
                  go_wp2_with fail
                  refine (unhide HnO wr).mono ?_
                  rintro e wY ⟨rfl, hbY⟩
                  have hBY : Below w2.heap.size w2 wY := bstep hB hbY
                  have hOY : OwnS wY w2.heap.size u12 L := OwnG.below hO hbY
                  have hsY := hbY.size
                  clear p0 p1 p2 p3 p4 p5 hcP hcO hlab
                  have hq0 := unhide HPC wY hBY
                  obtain ⟨p1, p4, hcP⟩ := id hq0
                  go_wp2
                  have hs0 := unhide HPC wY hBY
                  go_region_held_law (fun wz => wz.cell? ⟨w.heap.size, 1, none⟩ = some (.int .i64 (names.length : Int)) ∧ wz.cell? ⟨w.heap.size, 4, none⟩ = some (.slice (some ⟨bx, ox, none⟩) m.nx.length c1) ∧ wz.cell? ⟨bx, ox + P, none⟩ = some (.int .i64 t)) (first | with_reducible exact hs0 | with_reducible exact hsA | with_reducible exact hsB9 | with_reducible exact hs9 | go_keep) (first
                    | (refine step_cl1 rfl 21 (.tmp 118) #[3] rfl Tryd.func21 (by kernel_rfl) (by kernel_rfl) (.int .i64 (S : Int)) (by rfl) (unhide HnS wY.drew) ?_; rintro e wA ⟨rfl, hbA⟩; refine ⟨_, rfl, ?_⟩; have hbA2 := bstep (bdrew1 wY) hbA; have hsA := unhide HPC wA (bstep hBY hbA2))
                    | (refine step_cl1 rfl 21 (.tmp 130) #[3] rfl Tryd.func21 (by kernel_rfl) (by kernel_rfl) (.int .i64 t) (by rfl) (unhide HnT wA) ?_; rintro e wB ⟨rfl, hbB⟩; refine ⟨_, rfl, ?_⟩; have hbB2 := bstep hbA2 hbB; have hsB2 := hbB2.size; have hsB9 := unhide HPC wB (bstep hBY hbB2))
                    | (refine step_pushG eStr rfl (.tmp 117) (.tmp 137) rfl w2.heap.size u12 L (by rfl) (OwnG.below (OwnG.below hOY hbB2) (ballo _ _)) wB.heap.size 1 (T ++ dArr ++ U ++ dLab ++ (LB ++ [47] ++ V) ++ dEnd) (by rfl) (lit_str _ _ _ _ (ba_line2 T U LB V)) (by omega) (by unfold maxLen; omega) (by rw [World.size_alloc]; omega) ?_; intro v9 w9 ho9 hg9 _; have hB9 := ownS_blw (OwnG.below (OwnG.below hOY hbB2) (ballo _ _)) (balloc (bstep hBY hbB2) _) hg9 (by rw [World.size_alloc]; omega); have hs9 := unhide HPC w9 hB9; clear hg9))
                  all_goals
                    have HO9 := hide ho9
                    have HB9 := hide hB9
                    clear hs9 ho9 hB9
                    go_wp2
                    go_roundw
                    case rel => exact ⟨X + 1, by go_num, hX1, by rw [unhide hEA, ← List.append_assoc LB]; exact unhide HO9, unhide HB9⟩
                    case measure => simp [intOf]; omega
                · have t2 : (m.kind == 2) = false := by simpa using hk2
                  have HO' : Hid (dtO m S X = []) := by show _ = _; unfold dtO; rw [if_neg hk2]
                  rw [unhide HO', List.append_nil] at hEA
                  clear hk2 HO' hP hSK hNK
                  obtain ⟨t, ht⟩ : ∃ t, t = m.nx.getD P 0 := ⟨_, rfl⟩
                  rw [← ht] at hst hU hEA hcP
                  have Ht : Hid (m.nx.getD P 0 = t) := ht.symm
                  clear ht
                  have HnS := hide (fun wz => rnum_any (S : Int) wz (by omega) (by omega))
                  have HnT := hide (fun wz => rnum_any t wz (by omega) (by omega))
                  have HPC : Hid (∀ wz, Below w2.heap.size w2 wz → wz.cell? ⟨w.heap.size, 1, none⟩ = some (.int .i64 (names.length : Int)) ∧ wz.cell? ⟨w.heap.size, 4, none⟩ = some (.slice (some ⟨bx, ox, none⟩) m.nx.length c1) ∧ wz.cell? ⟨bx, ox + P, none⟩ = some (.int .i64 t)) := fun wz hz => by
                    obtain ⟨-, q1, -, -, q4, -⟩ := (unhide HBw).below hz
                    rw [← unhide HK] at q1
                    refine ⟨q1, q4, ?_⟩
                    obtain ⟨b', o', e', hc'⟩ := ((h1.below b2).below hz).at hPl
                    cases e'
                    rw [hc' P hPl, unhide Ht]
                  generalize Lib.itoa (S : Int) = T at *
                  generalize Lib.itoa t = U at *
                  have z1 : ¬ 9223372036854775807 < T.length + 4 := by omega
                  have z2 : ¬ 9223372036854775807 < T.length + 4 + U.length := by omega
                  have z3 : ¬ 9223372036854775807 < T.length + 4 + U.length + 9 := by omega
                  have z4 : ¬ 9223372036854775807 < T.length + 4 + U.length + 9 + LB.length := by omega
                  have z5 : ¬ 9223372036854775807 < T.length + 4 + U.length + 9 + LB.length + 2 := by omega
                  have hX1 : X + 1 ≤ names.length := by omega
                  go_wp2
                  have hs0 := unhide HPC wr hB
                  go_region_held_law (fun wz => wz.cell? ⟨w.heap.size, 1, none⟩ = some (.int .i64 (names.length : Int)) ∧ wz.cell? ⟨w.heap.size, 4, none⟩ = some (.slice (some ⟨bx, ox, none⟩) m.nx.length c1) ∧ wz.cell? ⟨bx, ox + P, none⟩ = some (.int .i64 t)) (first | with_reducible exact hs0 | with_reducible exact hsA | with_reducible exact hsB9 | with_reducible exact hs9 | go_keep) (first
                    | (refine step_cl1 rfl 21 (.tmp 118) #[3] rfl Tryd.func21 (by kernel_rfl) (by kernel_rfl) (.int .i64 (S : Int)) (by rfl) (unhide HnS wr.drew) ?_; rintro e wA ⟨rfl, hbA⟩; refine ⟨_, rfl, ?_⟩; have hbA2 := bstep (bdrew1 wr) hbA; have hsA := unhide HPC wA (bstep hB hbA2))
                    | (refine step_cl1 rfl 21 (.tmp 130) #[3] rfl Tryd.func21 (by kernel_rfl) (by kernel_rfl) (.int .i64 t) (by rfl) (unhide HnT wA) ?_; rintro e wB ⟨rfl, hbB⟩; refine ⟨_, rfl, ?_⟩; have hbB2 := bstep hbA2 hbB; have hsB2 := hbB2.size; have hsB9 := unhide HPC wB (bstep hB hbB2))
                    | (refine step_pushG eStr rfl (.tmp 117) (.tmp 137) rfl w2.heap.size u12 L (by rfl) (OwnG.below (OwnG.below hO hbB2) (ballo _ _)) wB.heap.size 1 (T ++ dArr ++ U ++ dLab ++ LB ++ dEnd) (by rfl) (lit_str _ _ _ _ (ba_line T U LB)) (by omega) (by unfold maxLen; omega) (by rw [World.size_alloc]; omega) ?_; intro v9 w9 ho9 hg9 _; have hB9 := ownS_blw (OwnG.below (OwnG.below hO hbB2) (ballo _ _)) (balloc (bstep hB hbB2) _) hg9 (by rw [World.size_alloc]; omega); have hs9 := unhide HPC w9 hB9; clear hg9))
                  all_goals
                    have HO9 := hide ho9
                    have HB9 := hide hB9
                    clear hs9 ho9 hB9
                    go_wp2
                    go_roundw
                    case rel => exact ⟨X + 1, by go_num, hX1, by rw [unhide hEA]; exact unhide HO9, unhide HB9⟩
                    case measure => simp [intOf]; omega
              · have hXe : names.length = X := by omega
                subst hXe
                have hge : ¬ ((names.length : Int) < (names.length : Int)) := by omega
                have HDW : Hid (L0 ++ dtW m (lbL names names.length) S ++ (List.range names.length).map (dtA m (lbL names names.length) S) = L0 ++ dtW m (lbL names names.length) (S + 1)) := by
                  show _ = _; rw [dtW_succ, unhide HKT, List.append_assoc]
                rw [unhide HDW] at hO
                have HO := hide hO
                have HB := hide hB
                clear hO hB
                go_wp2
                go_roundw
                case rel => exact ⟨S + 1, by go_num, by omega, unhide HO, unhide HB⟩
                case measure => simp [intOf]; omega
          · have hSe : N = S := by omega
            subst hSe
            have hge : ¬ ((N : Int) < (N : Int)) := by omega
            have hDL : Hid (L0 ++ dtW m (lbL names names.length) N = dtL m (lbL names names.length)) := by
              show _ = _; unfold dtL; rw [unhide HL0, show m.n.toNat = N by have := unhide HN; omega]
            rw [unhide hDL] at hO
            have hDl : (dtL m (lbL names names.length)).length ≤ 70000 := by
              rw [dtL_len, unhide HKT, show m.n.toNat = N by have := unhide HN; omega]
              have : N * names.length ≤ 1024 * 64 := Nat.mul_le_mul hN1 k1
              omega
            have hD0 : 0 < (dtL m (lbL names names.length)).length := by rw [dtL_len]; omega
            have HLe := hide (dtL_le (unhide HF) names names.length)
            have H : Hid (dtV m names = (dHead ++ ind (dtL m (lbL names names.length)) ++ [125, 10], 0)) := by
              show _ = _
              rw [dtV_ok (unhide HZ) (unhide HK) (by rw [unhide HKT]; exact unhide hEN), unhide HKT]; rfl
            generalize dtL m (lbL names names.length) = D at *
            obtain ⟨gq, cq, eq, -, hgq, hcq⟩ := OwnS.at hO (i := 0) hD0
            subst eq
            rename World => w5
            have hb5 : Below w.heap.size w w5 := bstep b2 hB
            have HCQ := hide hcq
            have hkc := conv_const w5 #[.int .u8 100, .int .u8 105, .int .u8 103, .int .u8 114, .int .u8 97, .int .u8 112, .int .u8 104, .int .u8 32, .int .u8 109, .int .u8 32, .int .u8 123, .int .u8 10] 12 12
            have hR5 : RdL .u8 (w5.alloc (.cells #[.int .u8 100, .int .u8 105, .int .u8 103, .int .u8 114, .int .u8 97, .int .u8 112, .int .u8 104, .int .u8 32, .int .u8 109, .int .u8 32, .int .u8 123, .int .u8 10] 5 (12, 13))) (some ⟨w5.heap.size, 0, none⟩) (zs dHead) := by simpa using RdL.const w5 dHead #[.int .u8 100, .int .u8 105, .int .u8 103, .int .u8 114, .int .u8 97, .int .u8 112, .int .u8 104, .int .u8 32, .int .u8 109, .int .u8 32, .int .u8 123, .int .u8 10] (12, 13) rfl
            have HA0 : Hid (Apd (w5.alloc (.cells #[.int .u8 100, .int .u8 105, .int .u8 103, .int .u8 114, .int .u8 97, .int .u8 112, .int .u8 104, .int .u8 32, .int .u8 109, .int .u8 32, .int .u8 123, .int .u8 10] 5 (12, 13))) w5.heap.size (.slice (some ⟨w5.heap.size, 0, none⟩) 12 12) (dHead ++ ind (D.take 0))) := by
              show Apd _ _ _ _
              rw [List.take_zero, show ind [] = [] from rfl, List.append_nil]
              exact .inr ⟨w5.heap.size, rfl, hR5, Nat.le_refl _, by simp⟩
            have HB0 : Hid (Below w5.heap.size w5 (w5.alloc (.cells #[.int .u8 100, .int .u8 105, .int .u8 103, .int .u8 114, .int .u8 97, .int .u8 112, .int .u8 104, .int .u8 32, .int .u8 109, .int .u8 32, .int .u8 123, .int .u8 10] 5 (12, 13)))) := ballo _ _
            clear hO hcq hR5 hB hlt hge hDL HBx HCL HLB
            go_wp2
            clear p0 p1 p2 p3 p4 p5 hkc
            go_loopw [17, 18] (fun v i wx => ∃ I : Nat, i = .int .i64 (I : Int) ∧ I ≤ D.length ∧ Hid (Apd wx w5.heap.size v (dHead ++ ind (D.take I))) ∧ Below w5.heap.size w5 wx) (fun _ i _ => D.length - (intOf i).toNat)
            case atStart => exact ⟨0, rfl, Nat.zero_le _, HA0, unhide HB0⟩
            case round =>
              obtain ⟨I, rfl, hI, HA, hB⟩ := hrel
              clear HA0 HB0
              have hsB := hB.size
              have hlB : (dHead ++ ind (D.take I)).length ≤ 6600000 := by
                rw [List.length_append]
                have h1 := ind_le (n := 90) (l := D.take I) fun x hx => unhide HLe x (List.mem_of_mem_take hx)
                rw [List.length_take] at h1
                have h2 : min I D.length * 93 ≤ 70000 * 93 := Nat.mul_le_mul_right _ (by omega)
                have h3 : dHead.length = 12 := rfl
                omega
              by_cases hID : I < D.length
              · have hID' : (I : Int) < (D.length : Int) := by omega
                have hcI : wr.cell? ⟨gq, I, none⟩ = some (.string ⟨(D.getD I []).toArray⟩) := by
                  rw [hB.cell (by exact hgq)]; exact unhide HCQ I hID
                have hln : (D.getD I []).length ≤ 90 := unhide HLe _ (by simp [hID])
                have HIT := hide (ind_take hID)
                have HKc : Hid (∀ wz, Below w5.heap.size w5 wz → wz.cell? ⟨gq, I, none⟩ = some (.string ⟨(D.getD I []).toArray⟩)) := fun wz hz => by
                  rw [hz.cell (by exact hgq)]; exact unhide HCQ I hID
                generalize D.getD I [] = ln at *
                obtain ⟨Z, hZ⟩ : ∃ Z, Z = dHead ++ ind (D.take I) := ⟨_, rfl⟩
                rw [← hZ] at HA hlB
                have HZ' : Hid (dHead ++ ind (D.take (I + 1)) = Z ++ [32, 32] ++ ln ++ [10]) := by
                  show _ = _; rw [unhide HIT, hZ]; simp only [List.append_assoc]
                clear hZ HIT
                have hI1 : I + 1 ≤ D.length := by omega
                have hs0 := hcI
                have hAd : Apd wr.drew w5.heap.size u17 Z := (unhide HA).grown (bdrew1 wr)
                have hBd : Below w5.heap.size w5 wr.drew := hB.trans ((bdrew1 wr).mono hsB)
                have HAD := hide hAd
                have HBD := hide hBd
                have hs1 : (wr.drew.alloc (.cells #[.int .u8 10] 5)).cell? ⟨gq, I, none⟩ = some (.string ⟨ln.toArray⟩) := unhide HKc _ (balloc hBd _)
                have hsd : wr.drew.cell? ⟨gq, I, none⟩ = some (.string ⟨ln.toArray⟩) := unhide HKc _ hBd
                have HAG : Hid (∀ i, u17.ownBlock = some i → w5.heap.size ≤ i ∧ i < wr.heap.size) := fun i e => hAd.gr i e
                have hbz : Below w5.heap.size w5 (wr.alloc (.cells #[.int .u8 10] 5)).drew := (balloc hB (.cells #[.int .u8 10] 5)).trans ((bdrew1 _).mono (by rw [World.size_alloc]; omega))
                have HBA := hide hbz
                have hszA : (wr.alloc (.cells #[.int .u8 10] 5)).drew.heap.size = wr.heap.size + 1 := by show (wr.alloc (.cells #[.int .u8 10] 5)).heap.size = _; rw [World.size_alloc]
                have HA1 := hide (show Apd (wr.alloc (.cells #[.int .u8 10] 5)).drew w5.heap.size u17 Z from ((unhide HA).alloc _).grown (bdrew1 _))
                have HR1 := hide (show RdL .u8 (wr.alloc (.cells #[.int .u8 10] 5)).drew (some ⟨wr.heap.size, 0, none⟩) [10] from (RdL.one wr 10).below (bdrew1 _))
                have HSZ := hide hszA
                clear hbz hszA
                have hz2 : Z.length + 2 ≤ 140737488355328 := by omega
                have hz3 : (Z ++ [32, 32]).length + ln.length ≤ 140737488355328 := by simp only [List.length_append, List.length_cons, List.length_nil]; omega
                have hz4 : (Z ++ [32, 32] ++ ln).length + [(10 : UInt8)].length ≤ 140737488355328 := by simp only [List.length_append, List.length_cons, List.length_nil]; omega
                clear hAd hBd
                go_wp2
                go_region_held_law (fun wz => wz.cell? ⟨gq, I, none⟩ = some (.string ⟨ln.toArray⟩)) (first | exact hs0 | exact hs1 | exact hsd | exact hs4 | exact hs3 | exact hs3a | exact hs2 | exact hs2a)
                  (first
                    | (refine step_pushXS rfl (.tmp 147) (.const (.string ⟨#[32, 32]⟩)) rfl w5.heap.size u17 Z (by rfl) (unhide HA1) ⟨#[32, 32]⟩ (by rfl) (by decide) hz2 (by rw [unhide HSZ]; exact Nat.le_succ_of_le hsB) ?_; intro v1 w6 ho6 hg6 hat6; have hB6 : Below w5.heap.size w5 w6 := (unhide HBA).trans ((Below.refl _ _).grown hg6 (by rw [unhide HSZ]; exact Nat.le_succ_of_le hsB) fun i e => (unhide HAG i e).1); have hs2 := unhide HKc w6 hB6; have hr6 : RdL .u8 w6 (some ⟨wr.heap.size, 0, none⟩) [10] := rd_gr (unhide HR1) hg6 (fun x e e2 => by { cases e; exact absurd (unhide HAG _ e2).2 (Nat.lt_irrefl _) }); have hv6 : Hid (∀ i, v1.ownBlock = some i → i ≠ wr.heap.size) := (fun i e => by { rcases hat6 i e with h | h; { have := (unhide HAG i h).2; omega }; { rw [unhide HSZ] at h; omega } }); have hz6 := hB6.size; have HO6 := hide ho6; clear hg6 hat6 ho6)
                    | (refine step_pushXS rfl (.tmp 147) (.const (.string ⟨#[32, 32]⟩)) rfl w5.heap.size u17 Z (by rfl) (unhide HAD) ⟨#[32, 32]⟩ (by rfl) (by decide) hz2 hsB ?_; intro v1 w6 ho6 hg6 hat6; have hB6 : Below w5.heap.size w5 w6 := (unhide HBD).trans ((Below.refl _ _).grown hg6 hsB fun i e => (unhide HAG i e).1); have hs2 := unhide HKc w6 hB6; have hs2a := unhide HKc _ (balloc hB6 (.cells #[.int .u8 10] 5)); have hz6 := hB6.size; have HO6 := hide ho6; have hno6 : True := trivial; clear hg6 hat6 ho6)
                    | (refine step_pushS rfl (.tmp 148) (.tmp 152) rfl w5.heap.size v1 (Z ++ [32, 32]) (by rfl) (OwnL.alloc (unhide HO6) (.cells #[.int .u8 10] 5)) ⟨ln.toArray⟩ (by rfl) hz3 (by rw [World.size_alloc]; exact Nat.le_succ_of_le hz6) ?_; intro v2 w7 ho7 hb7 hg7 hat7; have hB7 := (balloc hB6 (.cells #[.int .u8 10] 5)).trans hb7; have hs3 := unhide HKc w7 hB7; have hr7a : RdL .u8 w7 (some ⟨w6.heap.size, 0, none⟩) [10] := rd_gr (RdL.one _ _) hg7 (fun x e e2 => by { cases e; exact absurd ((unhide HO6).lt e2).2 (Nat.lt_irrefl _) }); have hz7 := hB7.size; have HO7 := hide ho7; clear hg7 hat7 ho7 hb7)
                    | (refine step_pushS rfl (.tmp 148) (.tmp 152) rfl w5.heap.size v1 (Z ++ [32, 32]) (by rfl) (unhide HO6) ⟨ln.toArray⟩ (by rfl) hz3 hz6 ?_; intro v2 w7 ho7 hb7 hg7 hat7; have hB7 := hB6.trans hb7; have hs3 := unhide HKc w7 hB7; have hr7 := rd_gr hr6 hg7 (fun x e e2 => by { cases e; exact unhide hv6 _ e2 rfl }); have hz7 := hB7.size; have HO7 := hide ho7; clear hg7 hat7 ho7 hb7)
                    | (refine step_pushS rfl (.tmp 148) (.tmp 152) rfl w5.heap.size v1 (Z ++ [32, 32]) (by rfl) (unhide HO6) ⟨ln.toArray⟩ (by rfl) hz3 hz6 ?_; intro v2 w7 ho7 hb7 hg7 hat7; have hB7 := hB6.trans hb7; have hs3 := unhide HKc w7 hB7; have hs3a := unhide HKc _ (balloc hB7 (.cells #[.int .u8 10] 5)); have hz7 := hB7.size; have HO7 := hide ho7; clear hg7 hat7 ho7 hb7)
                    | (refine step_pushX rfl (.tmp 153) (.tmp 154) rfl w5.heap.size v2 (Z ++ [32, 32] ++ ln) (by rfl) (.inl (by exact unhide HO7)) ⟨wr.heap.size, 0, none⟩ 1 [10] (by rfl) (show RdL .u8 _ _ (zs [10]) from hr7) (by decide) hz4 hz7 ?_; intro v9 w8 ho8 hb8; have hB8 := hB7.trans hb8; have hs4 := unhide HKc w8 hB8)
                    | (refine step_pushX rfl (.tmp 153) (.tmp 154) rfl w5.heap.size v2 (Z ++ [32, 32] ++ ln) (by rfl) (.inl (by exact unhide HO7)) ⟨w6.heap.size, 0, none⟩ 1 [10] (by rfl) (show RdL .u8 _ _ (zs [10]) from hr7a) (by decide) hz4 hz7 ?_; intro v9 w8 ho8 hb8; have hB8 := hB7.trans hb8; have hs4 := unhide HKc w8 hB8)
                    | (refine step_pushX rfl (.tmp 153) (.tmp 154) rfl w5.heap.size v2 (Z ++ [32, 32] ++ ln) (by rfl) (.inl (OwnL.alloc (by exact unhide HO7) (.cells #[.int .u8 10] 5))) ⟨w7.heap.size, 0, none⟩ 1 [10] (by rfl) (show RdL .u8 _ _ (zs [10]) from RdL.one _ _) (by decide) hz4 (by rw [World.size_alloc]; exact Nat.le_succ_of_le hz7) ?_; intro v9 w8 ho8 hb8; have hB8 := (balloc hB7 (.cells #[.int .u8 10] 5)).trans hb8; have hs4 := unhide HKc w8 hB8))
                all_goals
                  have HO8 := hide ho8
                  have HB8 := hide hB8
                  clear hs4 ho8 hB8 hb8 hs1 hsd hs2 hs3
                  go_wp2
                  go_roundw
                  case rel => exact ⟨I + 1, by go_num, hI1, by rw [unhide HZ']; exact hide (.inl (unhide HO8)), unhide HB8⟩
                  case measure => simp [intOf]; omega
              · have hIe : D.length = I := by omega
                subst hIe
                have hge : ¬ ((D.length : Int) < (D.length : Int)) := by omega
                rw [List.take_of_length_le (Nat.le_refl _)] at HA hlB
                have hAl := unhide HA
                go_wp2_with (at_builtin; refine wpl_pushXS rfl (.tmp 156) (.const (.string ⟨#[125, 10]⟩)) rfl w5.heap.size u17 (dHead ++ ind D) rfl hAl ⟨#[125, 10]⟩ rfl (by decide) (by show (dHead ++ ind D).length + 2 ≤ _; omega) hsB ?_; intro v1 w6 ho6 hg6)
                go_ret2
                refine ⟨v1, by rw [unhide H]; rfl, ?_, ?_⟩
                · rw [unhide H]
                  exact OwnL.mono (by exact ho6) hb5.size
                · exact hb5.trans ((hB.mono hb5.size).trans ((Below.refl _ _).grown hg6 (by have := hb5.size; omega) fun i e => Nat.le_trans hb5.size (hAl.gr i e).1))

end Go.Proofs.YtbhdcgebcmgidaaDoor
