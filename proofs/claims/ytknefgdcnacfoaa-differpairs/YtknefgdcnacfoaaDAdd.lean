/-
  What add of differ leaves: the sieve behind one more word.
-/
import Derived.Test.YtknefgdcnacfoaaDSvO
import Derived.Test.YtknefgdcnacfoaaK1
import Derived.Deep.RegionLaw
namespace Go.Proofs.Ytknefgdcnacfoaa
open Go.RowKit Go.Maps

theorem step_call1' {ops : Array Oper} {o : Oper} {a : Act} {w : World} {K : Act → World → Prop} {Q : Exit → Act → World → Prop} {F : Prop}
    (hg : o.guard = none) (f : Nat) (x : Operand) (ts : Array TypeId) (ho : o.op = .call { callee := .value (.func f), args := #[x], argTypes := ts })
    {fn : Func} (hfn : Try.prog.funcs[f]? = some fn) (hname : (fn.name == "runtime.NumGoroutine") = false) (hbody : fn.body.isNone = false)
    (u : Value) (hx : a.eval x = u) {R : Ending → World → Prop} (hc : Calls Try.prog f #[u] w R) (h : ∀ e w', R e w' → ∃ v, e = .returned v ∧ K (a.put o.dst v) w') :
    if Region.wanted o (yielded ops a.tmps) = true then Oper.wp Try.prog o a w K Q else F :=
  step_call hg f #[x] ts ho hfn hname hbody #[u] (by simp [hx]) hc h

/-- What is asked of a word that is added. -/
structure Cand (m : Mc) (n : Nat) (D : List Int → Prop) (wd : List Int) : Prop where
  wr : Wrd m.k wd
  sy : Sayd m wd
  h1 : ∀ v (s t : Nat), s < n → t < n → IsF m m s t v → Ahd v wd → D v
  h2 : ∀ v (s t : Nat), s < n → t < n → D v → IsF m m s t v → Ahd v wd
  no : ¬ D wd
/-- What add leaves. -/
def AdPost (m : Mc) (n B vb gl : Nat) (ls : Nat → Nat) (vk : Value) (MK : List Mrk) (M : List (List Int × Nat × Nat)) (D : List Int → Prop) (wd : List Int) (w : World) (e : Ending) (w' : World) : Prop :=
  e = .returned (.tuple #[]) ∧ ∃ cnt' ls' vk' MK' M', SvO m n B w' vb gl cnt' ls' vk' MK' M' ∧ Siv m n (orW D wd) ls' M' ∧ ((ls' = ls ∧ M' = M ∧ MK' = MK) ∨ ∃ s t k, M' = M ++ [(wd, s, t)] ∧ MK' = MK ++ [k]) ∧ Bx (fun j => j = vb ∨ j = gl ∨ vk.ownBlock = some j) w w' ∧ (∀ b, vk'.ownBlock = some b → vk.ownBlock = some b ∨ w.heap.size ≤ b) ∧
    (∀ g, vk.ownBlock = some g → ∀ i c, i < MK.length → c < 4 → w'.cell? ⟨g, i * 4 + c, none⟩ = (mkl (MK.getD i mk0))[c]?)

theorem PartOf.congr {n : Nat} {ls ls' : Nat → Nat} {sd sd2 : Nat → Int} (h : PartOf n ls sd ls') (e : ∀ t, t < n → sd t = sd2 t) : PartOf n ls sd2 ls' := fun t ht => by
  obtain ⟨h1, h2, h3, h4⟩ := h t ht
  exact ⟨h1, h2, by rw [← e t ht, ← e _ (by omega)]; exact h3, fun u hu e1 e2 => h4 u hu e1 (by rw [e u hu, e t ht]; exact e2)⟩
/-- The worlds of add, one behind the other. -/
structure AdW (m : Mc) (n B vb gl cnt : Nat) (ls : Nat → Nat) (ka : Option Addr) (kc : Nat) (MK : List Mrk) (M : List (List Int × Nat × Nat)) (D : List Int → Prop) (wd : List Int) (sa : Option Addr) (sc s t : Nat) (w wA wJ : World) (o : Obj) (w9 : World) (wa : Option Addr) (wc a9c : Nat) (a9 : Option Addr) : Prop where
  h : SvO m n B w vb gl cnt ls (.slice ka MK.length kc) MK M
  sv : Siv m n D ls M
  hc : Cand m n D wd
  hr : RdL .i64 w sa (sdL m n wd)
  hsd : ∀ x, sa = some x → x.block ≠ vb ∧ x.block ≠ gl ∧ (Value.slice ka MK.length kc).ownBlock ≠ some x.block
  hB : B ≤ w.heap.size
  bA : Below w.heap.size w wA
  bJ : Below wA.heap.size wA wJ
  vJ : OwnL .i64 3 wJ wA.heap.size (.slice wa wd.length wc) wd
  o9 : OwnG 72 4 mkl w9 B (.slice a9 (MK.length + 1) a9c) (MK ++ [⟨wa, wd.length, wc, sa, n, sc, s, t⟩])
  g9 : (wJ.alloc o).grownBy w9 (Value.slice ka MK.length kc).ownBlock
  at9 : (Value.slice a9 (MK.length + 1) a9c).ownBlock = (Value.slice ka MK.length kc).ownBlock ∨ ((Value.slice a9 (MK.length + 1) a9c).ownBlock = some (wJ.alloc o).heap.size ∧ (wJ.alloc o).grownBy w9 none)
  t1 : t < n
  fs : s = ls t ∧ (sdL m n wd).getD s 0 ≠ (sdL m n wd).getD t 0 ∧ ∀ u, u < n → (sdL m n wd).getD (ls u) 0 ≠ (sdL m n wd).getD u 0 → s < ls u ∨ (s = ls u ∧ t ≤ u)
section
variable {m : Mc} {n B vb gl cnt : Nat} {ls : Nat → Nat} {ka : Option Addr} {kc : Nat} {MK : List Mrk} {M : List (List Int × Nat × Nat)} {D : List Int → Prop} {wd : List Int} {sa : Option Addr} {sc s t : Nat} {w wA wJ : World} {o : Obj} {w9 : World} {wa : Option Addr} {wc a9c : Nat} {a9 : Option Addr}
theorem AdW.blk (a : AdW m n B vb gl cnt ls ka kc MK M D wd sa sc s t w wA wJ o w9 wa wc a9c a9) : ∀ j, j < w.heap.size → (Value.slice ka MK.length kc).ownBlock ≠ some j → w9.heap[j]? = w.heap[j]? := fun j hj hne => by
  have z1 := a.bA.size
  have z2 := a.bJ.size
  rw [a.g9.block j (by rw [World.size_alloc]; omega) (fun e => hne e.symm), Below.heap_alloc _ _ _ (by omega), a.bJ.block j (by omega), a.bA.block j hj]
theorem AdW.bx (a : AdW m n B vb gl cnt ls ka kc MK M D wd sa sc s t w wA wJ o w9 wa wc a9c a9) (v : Value) : Bx (fun j => j = vb ∨ j = gl ∨ (Value.slice ka MK.length kc).ownBlock = some j) w (w9.setCell ⟨vb, 2, none⟩ v) := by
  have z1 := a.bA.size
  have z2 := a.bJ.size
  have z3 := a.g9.size
  rw [World.size_alloc] at z3
  refine ⟨?_, ?_, ?_, ?_, fun j hj hx => ?_⟩
  · exact a.g9.os.trans (a.bJ.os.trans a.bA.os)
  · exact a.g9.tape.trans (a.bJ.tape.trans a.bA.tape)
  · exact a.g9.output.trans (a.bJ.output.trans a.bA.output)
  · simp; omega
  · rw [Below.heap_setCell _ _ _ _ (fun e => hx (.inl e)), a.blk j hj (fun e => hx (.inr (.inr e)))]
theorem AdW.pre (a : AdW m n B vb gl cnt ls ka kc MK M D wd sa sc s t w wA wJ o w9 wa wc a9c a9) : (w9.setCell ⟨vb, 2, none⟩ (.slice a9 (MK.length + 1) a9c)).heap[vb]? = some (svC gl n cnt (.slice a9 (MK.length + 1) a9c)) ∧ OwT (w9.setCell ⟨vb, 2, none⟩ (.slice a9 (MK.length + 1) a9c)) B gl n n ls ∧ RdL .i64 (w9.setCell ⟨vb, 2, none⟩ (.slice a9 (MK.length + 1) a9c)) sa (sdL m n wd) := by
  have e1 : w9.heap[vb]? = some (svC gl n cnt (.slice ka MK.length kc)) := (a.blk vb a.h.vlt (fun e => (a.h.d2 vb e).1 rfl)).trans a.h.o
  refine ⟨?_, ?_, ?_⟩
  · exact heap_setCell_same w9 vb 2 _ _ _ e1
  · exact a.h.lo.keep ((Below.heap_setCell w9 ⟨vb, 2, none⟩ _ gl (fun e => a.h.d1 e.symm)).trans (a.blk gl a.h.lo.lt.2 (fun e => (a.h.d2 gl e).2 rfl)))
  · exact a.hr.bx (a.bx _) fun x e => by
      have := a.hsd x e
      rintro (y | y | y)
      · exact this.1 y
      · exact this.2.1 y
      · exact this.2.2 y
theorem AdW.fin (a : AdW m n B vb gl cnt ls ka kc MK M D wd sa sc s t w wA wJ o w9 wa wc a9c a9) (R : Right m) (hn1 : 1 ≤ n) (hn2 : n ≤ 1024) {e : Ending} {w' : World} (hp : PtPost n ls (fun i => (sdL m n wd).getD i 0) B vb gl (.slice a9 (MK.length + 1) a9c) (w9.setCell ⟨vb, 2, none⟩ (.slice a9 (MK.length + 1) a9c)) e w') : AdPost m n B vb gl ls (.slice ka MK.length kc) MK M D wd w e w' := by
  obtain ⟨he, c, po, pl, pc1, pc2, pb⟩ := hp
  have z1 := a.bA.size
  have z2 := a.bJ.size
  have z3 := a.g9.size
  rw [World.size_alloc] at z3
  have hvl := a.h.vlt
  have hgl := a.h.lo.lt.2
  have bx1 := a.bx (.slice a9 (MK.length + 1) a9c)
  have BX : Bx (fun j => j = vb ∨ j = gl ∨ (Value.slice ka MK.length kc).ownBlock = some j) w w' := bx1.trans pb fun j _ h => by
    rcases h with h | h
    · exact .inl h
    · exact .inr (.inl h)
  have P : ∀ j, j < w9.heap.size → j ≠ vb → j ≠ gl → w'.heap[j]? = w9.heap[j]? := fun j hj h1 h2 => by
    rw [pb.block j (by simpa using hj) (by rintro (h | h); exact h1 h; exact h2 h), Below.heap_setCell _ _ _ _ h1]
  have n9 : ∀ b, (Value.slice a9 (MK.length + 1) a9c).ownBlock = some b → (Value.slice ka MK.length kc).ownBlock = some b ∨ b = wJ.heap.size + 1 := fun b eb => by
    rcases a.at9 with h | ⟨h, _⟩
    · rw [h] at eb; exact .inl eb
    · rw [h] at eb
      have := Option.some.inj eb
      rw [World.size_alloc] at this
      exact .inr this.symm
  have k9 : ∀ b, (Value.slice ka MK.length kc).ownBlock = some b → b < w.heap.size := fun b eb => (a.h.mo.lt eb).2
  have N9 : ∀ b, (Value.slice a9 (MK.length + 1) a9c).ownBlock = some b → b ≠ vb ∧ b ≠ gl := fun b eb => by
    rcases n9 b eb with h | h
    · exact a.h.d2 b h
    · exact ⟨by omega, by omega⟩
  have mo : OwnG 72 4 mkl w' B (.slice a9 (MK.length + 1) a9c) (MK ++ [⟨wa, wd.length, wc, sa, n, sc, s, t⟩]) := a.o9.keep fun b eb => P b (a.o9.lt eb).2 (N9 b eb).1 (N9 b eb).2
  have hw9 : ∀ j, wA.heap.size ≤ j → j < wJ.heap.size → w9.heap[j]? = wJ.heap[j]? := fun j h1 h2 => by
    rw [a.g9.block j (by rw [World.size_alloc]; omega) (fun e => by have := k9 j e.symm; omega), Below.heap_alloc _ _ _ h2]
  have kwv : OwnL .i64 3 w' w.heap.size (.slice wa wd.length wc) wd := OwnL.mono (a.vJ.keep fun b eb => by
    have h1 := a.vJ.lt eb
    rw [P b (by omega) (by omega) (by omega), hw9 b h1.1 h1.2]) z1
  have sab : ∀ x, sa = some x → x.block < w.heap.size := fun x ex => by
    obtain ⟨b2, off2, e2, hc2⟩ := a.hr.at (i := 0) (by rw [sdL_len]; omega)
    rw [ex] at e2
    cases e2
    exact World.block_lt_of_cell? w _ (hc2 0 (by rw [sdL_len]; omega))
  have hs' : s < n := by have h3 := (a.sv.mn t a.t1).1; have h4 := a.fs.1; have h5 := a.t1; omega
  have hls : ∀ u, u < n → ls u < n := fun u hu => by have := (a.sv.mn u hu).1; omega
  refine ⟨he, c, fsG ls (fun i => (sdL m n wd).getD i 0), .slice a9 (MK.length + 1) a9c, MK ++ [⟨wa, wd.length, wc, sa, n, sc, s, t⟩], M ++ [(wd, s, t)], ?_, ?_, .inr ⟨s, t, _, rfl, rfl⟩, BX, fun b eb => ?_, ?_⟩
  rotate_left 2
  · rcases n9 b eb with h | h
    · exact .inl h
    · right; omega
  rotate_left 1
  · refine a.h.push BX po pl mo (fun b eb => ?_) ⟨rfl, kwv⟩ ⟨rfl, a.hr.bx BX fun x ex => ?_⟩ ⟨rfl, rfl⟩ (fun b eb eb2 => ?_) (fun x ex => ?_) (fun b eb => ?_) pc2 (by omega) a.hB hn1
    · rcases n9 b eb with h | h
      · exact .inl h
      · right; omega
    · have := a.hsd x ex
      rintro (y | y | y)
      · exact this.1 y
      · exact this.2.1 y
      · exact this.2.2 y
    · have h1 := a.vJ.lt eb
      rcases n9 b eb2 with h | h
      · have := k9 b h; omega
      · omega
    · have h1 := a.hsd x ex
      refine ⟨h1.1, h1.2.1, fun y => ?_⟩
      rcases n9 x.block y with h | h
      · exact h1.2.2 h
      · have := sab x ex; omega
    · rcases n9 b eb with h | h
      · exact .inl h
      · exact .inr fun j hj => by omega
  · refine a.sv.some R.kd a.hc.wr a.hc.sy a.hc.h1 a.hc.h2 a.hc.no ((fsG_part n ls _).congr fun u hu => sdL_at hu) a.t1 a.fs.1 ?_ fun u hu hne => ?_
    · have := a.fs.2.1
      rw [sdL_at hs', sdL_at a.t1] at this
      exact this
    · exact a.fs.2.2 u hu (by rw [sdL_at (hls u hu), sdL_at hu]; exact hne)
  · intro g eg i c hi hc
    rcases a.at9 with h | ⟨_, h⟩
    · obtain ⟨g', cap', e', -, -, -, -, hcl, -⟩ := mo.pos mkl_len mk0 (by simp)
      rw [← h] at eg
      have e2 : (Value.slice a9 (MK.length + 1) a9c).ownBlock = some g' := by rw [e']; rfl
      rw [e2] at eg
      cases eg
      have h5 := hcl i c (by simp; omega) hc
      rw [gd_left _ hi] at h5
      exact h5
    · obtain ⟨g', cap', e', -, -, -, -, hcl, -⟩ := a.h.mo.pos mkl_len mk0 (by omega)
      have e2 : (Value.slice ka MK.length kc).ownBlock = some g' := by rw [e']; rfl
      rw [e2] at eg
      cases eg
      have hg := k9 g e2
      have h6 : w'.heap[g]? = w.heap[g]? := by
        have d := a.h.d2 g e2
        rw [P g (by omega) d.1 d.2, h.block g (by rw [World.size_alloc]; omega) (by simp), Below.heap_alloc _ _ _ (by omega), a.bJ.block g (by omega), a.bA.block g hg]
      rw [← hcl i c hi hc]
      exact World.cell?_of_block h6
end

set_option maxRecDepth 100000 in
set_option maxHeartbeats 4000000 in
theorem add_any (m : Mc) (n B vb gl cnt : Nat) (ls : Nat → Nat) (vk : Value) (MK : List Mrk) (M : List (List Int × Nat × Nat)) (sa : Option Addr) (sc : Nat) (pa : Option Addr) (N pc : Nat) (D : List Int → Prop) (wd : List Int) (w : World) (R : Right m) (hn : m.n = (n : Int)) (o1 : m.o ≤ 64)
    (h : SvO m n B w vb gl cnt ls vk MK M) (sv : Siv m n D ls M) (hc : Cand m n D wd) (hr : RdL .i64 w sa (sdL m n wd)) (hsd : ∀ x, sa = some x → x.block ≠ vb ∧ x.block ≠ gl ∧ vk.ownBlock ≠ some x.block) (hB : B ≤ w.heap.size)
    (HP : ∀ W, Below w.heap.size w W → Calls Try.prog 46 #[.slice pa N pc] W fun e w' => ∃ v, e = .returned v ∧ OwnL .i64 3 w' W.heap.size v wd ∧ Below W.heap.size W w') :
    Calls Try.prog 52 #[.pointer (some ⟨vb, 0, none⟩), .slice sa n sc, .slice pa N pc] w fun e w' => AdPost m n B vb gl ls vk MK M D wd w e w' := by
  have n0 := R.n0
  have n1 := R.n1
  have hn1 : 1 ≤ n := by omega
  have hn2 : n ≤ 1024 := by omega
  have hls : ∀ t, t < n → ls t < n := fun t ht => by have := (sv.mn t ht).1; omega
  have hML := sv.len
  have hML2 : n * n ≤ 1024 * 1024 := Nat.mul_le_mul hn2 hn2
  have HS1 := hide (firstSplit_any n ls (sdL m n wd) B vb gl cnt vk sa sc w h.o h.lo hr (sdL_len m n wd) hls hn1 (by omega))
  obtain ⟨ka, kc, ekv⟩ := h.mo.shape
  subst ekv
  have HH := hide h
  have HSV := hide sv
  have HC := hide hc
  have HR := hide hr
  have HSD := hide hsd
  have HHP := hide HP
  have HRT := hide R
  have HLS := hide hls
  clear h sv hc hr hsd HP R hls
  go_enter Try.func52, Try.ntmps52
  go_wp2_with fail
  refine (unhide HS1).mono ?_
  rintro e w1 ⟨s, t, sp, rfl, hfs, hb1⟩
  have HFS := hide hfs
  have HB1 := hide hb1
  clear HS1 hfs hb1
  cases sp
  · have HZ : Hid (∀ u, u < n → lst m wd ((ls u : Nat) : Int) = lst m wd ((u : Nat) : Int)) := fun u hu => by
      have h3 := (unhide HFS).1 rfl u hu
      have h4 := unhide HLS u hu
      dsimp only at h3
      rw [sdL_at h4, sdL_at hu] at h3
      exact h3
    go_wp2
    go_end0
    refine ⟨rfl, cnt, ls, _, MK, M, (unhide HH).on (bstep (unhide HB1) (ballo _ _)), (unhide HSV).none (unhide HRT).kd (unhide HC).wr (unhide HC).sy (unhide HC).h1 (unhide HC).no (unhide HZ), .inl ⟨rfl, rfl, rfl⟩, Bx.of (bstep (unhide HB1) (ballo _ _)), fun b e => .inl e, fun g eg i c hi hc => ?_⟩
    obtain ⟨g', cap', e', -, -, -, -, hcl, -⟩ := ((unhide HH).on (bstep (unhide HB1) (ballo w1 (.cells #[.int .i64 (s : Int), .int .i64 (t : Int)] 62)))).mo.pos mkl_len mk0 (by omega)
    rw [e'] at eg
    cases eg
    exact hcl i c hi hc
  · obtain ⟨t1, hst, hne, hmin⟩ := (unhide HFS).2 rfl
    obtain ⟨wA, hwA⟩ : ∃ wA, wA = w1.alloc (.cells #[.int .i64 (s : Int), .int .i64 (t : Int)] 62) := ⟨_, rfl⟩
    have bA : Below w.heap.size w wA := by rw [hwA]; exact bstep (unhide HB1) (ballo _ _)
    have PA : Bxp wA w1.heap.size ((s : Int), (t : Int)) := by
      refine Bxp.of (t := 62) ?_
      rw [hwA]; exact heap_alloc_new _ _
    have zA : wA.heap.size = w1.heap.size + 1 := by rw [hwA]; simp
    have HA := hide ((unhide HH).on bA)
    have HBA := hide bA
    have HFJ : Hid (∀ wz, Below wA.heap.size wA wz → wz.cell? ⟨vb, 2, none⟩ = some (.slice ka MK.length kc) ∧ wz.frozen? ⟨vb, 2, none⟩ = false ∧ wz.cell? ⟨w1.heap.size, 0, none⟩ = some (.int .i64 (s : Int)) ∧ wz.cell? ⟨w1.heap.size, 1, none⟩ = some (.int .i64 (t : Int))) := fun wz hz => by
      obtain ⟨-, -, k2, -, -, f2⟩ := sv_cells ((unhide HA).on hz).o
      have hq := PA.keep (hz.block _ PA.lt)
      exact ⟨k2, f2, hq.c0, hq.c1⟩
    have bD : Below wA.heap.size wA wA.drew := (Below.refl _ _).drew
    obtain ⟨k2, f2, y0, y1⟩ := unhide HFJ wA (Below.refl _ _)
    have HBD := hide (bstep bA bD)
    have HT1 := hide t1
    have HMN : Hid (s = ls t ∧ (sdL m n wd).getD s 0 ≠ (sdL m n wd).getD t 0 ∧ ∀ u, u < n → (sdL m n wd).getD (ls u) 0 ≠ (sdL m n wd).getD u 0 → s < ls u ∨ (s = ls u ∧ t ≤ u)) := ⟨hst, hne, hmin⟩
    have hMKl : MK.length ≤ 1048576 := by have := (unhide HH).len; omega
    have HMX : Hid (MK.length + 1 ≤ maxLen) := by show _ ≤ _; unfold maxLen; omega
    have HMO : Hid (∀ wz o, Below wA.heap.size wA wz → OwnG 72 4 mkl (wz.alloc o) B (.slice ka MK.length kc) MK ∧ B ≤ (wz.alloc o).heap.size) := fun wz o hz => by
      have h9 := ((unhide HA).on (bstep hz (ballo wz o)))
      refine ⟨h9.mo, ?_⟩
      have := hz.size
      have := bA.size
      rw [World.size_alloc]; omega
    have HLT : Hid (∀ (wz : World) (wa : Option Addr) (wc' : Nat) (j : Nat) (u : Value), (mkl ⟨wa, wd.length, wc', sa, n, sc, s, t⟩)[j]? = some u → (wz.alloc (.cells #[.slice wa wd.length wc', .slice sa n sc, .int .i64 (s : Int), .int .i64 (t : Int)] 72)).cell? ⟨wz.heap.size, j, none⟩ = some u) := fun wz wa wc' j u hj => by
      unfold World.cell?
      rw [heap_alloc_new]
      show (#[Value.slice wa wd.length wc', .slice sa n sc, .int .i64 (s : Int), .int .i64 (t : Int)] : Array Value)[j]? = some u
      rw [← Array.getElem?_toList]; exact hj
    have HVB : Hid (∀ b, (Value.slice ka MK.length kc).ownBlock = some b → b ≠ vb) := fun b e => ((unhide HH).d2 b e).1
    have hvl := (unhide HA).vlt
    have HVL := hide hvl
    clear t1 hst hne hmin bA PA HFS hvl
    go_wp2
    rw [← hwA]
    clear hwA
    go_region_law (first
      | (refine step_call1' rfl 46 (.tmp 21) #[41] rfl Try.func46 (by kernel_rfl) (by kernel_rfl) (.slice pa N pc) (by rfl) (unhide HHP wA.drew (unhide HBD)) ?_; rintro e wJ ⟨vJ, rfl, hvJ, hbJ⟩; obtain ⟨wa, wc', ewj, -, -, -, -, -⟩ := hvJ.shape; subst ewj; refine ⟨_, rfl, ?_⟩; have hbJ2 := bstep bD hbJ; have HVJ := hide hvJ; clear hvJ; obtain ⟨j2, jf2, jy0, jy1⟩ := unhide HFJ wJ hbJ2; have j2a : ∀ o, (wJ.alloc o).cell? ⟨vb, 2, none⟩ = some (.slice ka MK.length kc) := fun o => (unhide HFJ (wJ.alloc o) (bstep hbJ2 (ballo wJ o))).1)
      | (refine step_pushG eMark rfl (.tmp 20) (.tmp 26) rfl B (.slice ka MK.length kc) MK (by rfl) (unhide HMO wJ _ hbJ2).1 wJ.heap.size 1 ⟨wa, wd.length, wc', sa, n, sc, s, t⟩ (by rfl) (unhide HLT wJ wa wc') (by omega) (unhide HMX) (unhide HMO wJ _ hbJ2).2 ?_; intro v9 w9 ho9 hg9 hat9; have q9 := hg9.block vb (by rw [World.size_alloc]; have := hbJ2.size; have := unhide HVL; omega) (fun e => unhide HVB vb e.symm rfl); have j9 := (World.cell?_of_block (a := ⟨vb, 2, none⟩) q9).trans ((World.cell?_of_block (a := ⟨vb, 2, none⟩) (Below.heap_alloc wJ _ vb (by have := hbJ2.size; have := unhide HVL; omega))).trans j2); have jf9 := (World.frozen?_of_block (a := ⟨vb, 2, none⟩) q9).trans ((World.frozen?_of_block (a := ⟨vb, 2, none⟩) (Below.heap_alloc wJ _ vb (by have := hbJ2.size; have := unhide HVL; omega))).trans jf2); obtain ⟨a9, c9, e9⟩ := ho9.shape; rw [show (MK ++ [(⟨wa, wd.length, wc', sa, n, sc, s, t⟩ : Mrk)]).length = MK.length + 1 by simp] at e9; subst e9))
    all_goals
      have AW : AdW m n B vb gl cnt ls ka kc MK M D wd sa sc s t w wA wJ _ w9 wa wc' c9 a9 := ⟨unhide HH, unhide HSV, unhide HC, unhide HR, unhide HSD, hB, unhide HBA, hbJ2, unhide HVJ, ho9, hg9, hat9, unhide HT1, unhide HMN⟩
      have HAW := hide AW
      have PR := AW.pre
      have HPT := hide (part_any n ls (sdL m n wd) B vb gl cnt (.slice a9 (MK.length + 1) c9) sa sc _ PR.1 PR.2.1 PR.2.2 (sdL_len m n wd) (unhide HLS) (fun u hu => ⟨⟨by show (0 : Int) ≤ ((ls u : Nat) : Int); omega, by show ((ls u : Nat) : Int) ≤ _; have := unhide HLS u hu; omega⟩, by show 0 ≤ (sdL m n wd).getD u 0; rw [sdL_at hu]; exact (lst_fit (unhide HRT) o1 wd _).1, by show (sdL m n wd).getD u 0 ≤ _; rw [sdL_at hu]; have := (lst_fit (unhide HRT) o1 wd ((u : Nat) : Int)).2; omega⟩) (unhide HH).d1 (fun x ex => ⟨(unhide HSD x ex).1, (unhide HSD x ex).2.1⟩) hn1 (by omega))
      clear AW PR ho9 hg9 hat9 q9 j9 jf9 j2 jf2 jy0 jy1 j2a hbJ hbJ2 HVJ k2 f2 y0 y1
      go_wp2_with fail
      refine (unhide HPT).mono ?_
      intro e w10 hp
      have FN := (unhide HAW).fin (unhide HRT) hn1 hn2 hp
      have he : e = .returned (.tuple #[]) := FN.1
      subst he
      clear hp HPT
      have HFN := hide FN
      clear FN
      go_wp2
      go_end0
      exact unhide HFN
end Go.Proofs.Ytknefgdcnacfoaa
