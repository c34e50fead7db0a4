/-
  What sift of differ returns: the marks of all words.
-/
import Derived.Test.YtknefgdcnacfoaaDSiftI
import Derived.WalkMore
import Derived.Deep.RegionHeld
namespace Go.Proofs.Ytknefgdcnacfoaa
open Go.RowKit Go.Maps

def SfPost (m : Mc) (n : Nat) (w : World) (e : Ending) (w' : World) : Prop :=
  ∃ vk vb gl cnt ls MK M, e = .returned vk ∧ SvO m n (w.heap.size + 1) w' vb gl cnt ls vk MK M ∧ Siv m n (fun _ => True) ls M ∧ Below w.heap.size w w'

structure MadeS (w0 : World) (n : Nat) (wx : World) (vb gl : Nat) : Prop where
  v : wx.heap[vb]? = some (svC gl n 1 (.slice none 0 0))
  g : wx.heap[gl]? = some (.cells (madeCells #[.int .i64 0] n) 3)
  bl : Below w0.heap.size w0 wx
  v0 : w0.heap.size ≤ vb
  g0 : w0.heap.size ≤ gl
  ne : vb ≠ gl

set_option maxRecDepth 100000 in
set_option maxHeartbeats 4000000 in
theorem sift_any (m : Mc) (a1 : Option Addr) (c1 : Nat) (a2 : Option Addr) (c2 : Nat) (n k : Nat) (w : World) (R : Right m) (hn : m.n = (n : Int)) (hk : m.k = (k : Int)) (o1 : m.o ≤ 64) (h1 : RdL .i64 w a1 m.nx) (h2 : RdL .i64 w a2 m.out) :
    Calls Try.prog 34 #[mval m a1 c1 a2 c2] w fun e w' => SfPost m n w e w' := by
  have n0 := R.n0
  have n1 := R.n1
  have k0 := R.k0
  have k1 := R.k1
  have hn1 : 1 ≤ n := by omega
  have hn2 : n ≤ 1024 := by omega
  obtain ⟨w0, hw0⟩ : ∃ w0, w0 = w.alloc (.cells #[.int .i64 m.kind, .int .i64 m.k, .int .i64 m.o, .int .i64 m.n, .slice a1 m.nx.length c1, .slice a2 m.out.length c2] 24) := ⟨_, rfl⟩
  have b0 : Below w.heap.size w w0 := by rw [hw0]; exact ballo _ _
  have A0 : Box w0 w.heap.size m a1 c1 a2 c2 := by rw [hw0]; exact Box.alloc w m a1 c1 a2 c2 24
  have z0 : w0.heap.size = w.heap.size + 1 := by rw [hw0]; simp
  have HA := hide A0
  have HB0 := hide b0
  have HZ0 := hide z0
  have HR := hide R
  have HN := hide hn
  have HK := hide hk
  have HR1 := hide h1
  have HR2 := hide h2
  obtain ⟨p0, p1, p2, p3, p4, p5⟩ := A0
  rw [hn] at p3
  rw [hw0] at p3
  unfold mval
  clear R hn hk b0 z0 p0 p1 p2 p4 p5 h1 h2
  go_enter Try.func34, Try.ntmps34
  go_wp2
  go_step3
  go_wp2_with (at_make; rw [← hw0]; refine wpl_make rfl (.tmp 10) (.tmp 10) rfl w0.heap.size _ _ n rfl rfl rfl rfl (by omega) (Nat.le_refl _) ?_; intro w1 hown1 hb1 _; have hb1' := hb1; rw [unhide HZ0] at hown1 hb1; have HO1 := hide hown1; have HB1 := hide hb1; have q : ∀ o, Box (w1.alloc o) w.heap.size m a1 c1 a2 c2 := fun o => (unhide HA).below (bstep hb1' (ballo w1 o)); have p0 := fun o => (q o).p0; have p1 := fun o => (q o).p1; have p2 := fun o => (q o).p2; have p3 := fun o => (q o).p3; have p4 := fun o => (q o).p4; have p5 := fun o => (q o).p5; clear hown1 hb1 hw0 hb1' q; rw [unhide HZ0])
  clear p0 p1 p2 p3 p4 p5
  obtain ⟨w2, hw2⟩ : ∃ w2, w2 = w1.alloc (.cells #[.slice (some ⟨w.heap.size + 1, 0, none⟩) n n, .int .i64 1, .slice none 0 0] 96) := ⟨_, rfl⟩
  have z1 := (unhide HB1).size
  rw [unhide HZ0] at z1
  have b2 : Below (w.heap.size + 1) w0 w2 := by rw [hw2]; exact (unhide HB1).trans ((ballo w1 _).mono (by omega))
  have S2 : SvO m n (w.heap.size + 1) w2 w1.heap.size (w.heap.size + 1) 1 (fun _ => 0) (.slice none 0 0) [] [] := by
    refine ⟨by rw [hw2]; exact heap_alloc_new _ _, ?_, OwnG.nil _ _, rfl, (fun i hi => by simp at hi), (fun i hi => by simp at hi), (fun i hi => by simp at hi), by omega, ?_, (fun b e => by cases e), (fun i hi => by simp at hi), (fun i hi => by simp at hi), (fun i j _ hj => by simp at hj), (fun e t ht => by omega), by omega⟩
    · rw [hw2]
      exact OwT.below (unhide HO1) (ballo _ _)
    · intro e
      have : w.heap.size + 1 < w1.heap.size := ((unhide HO1).lt rfl).2
      omega
  have nxp : 0 < m.nx.length := by
    have h3 := (unhide HR).nx
    have h4 : 1 * 1 ≤ m.n * m.k := Int.mul_le_mul n0 k0 (by omega) (by omega)
    omega
  have oup : 0 < m.out.length := by
    rcases (unhide HR).kd with h | h
    · have := (unhide HR).outD h; omega
    · have h3 := (unhide HR).outM h
      have h4 : 1 * 1 ≤ m.n * m.k := Int.mul_le_mul n0 k0 (by omega) (by omega)
      omega
  have ha1 : ∀ y, a1 = some y → y.block < w.heap.size := fun y e => by
    obtain ⟨b, o, eb, hc⟩ := (unhide HR1).at (i := 0) nxp
    rw [e] at eb; cases eb
    exact World.block_lt_of_cell? w _ (hc 0 nxp)
  have ha2 : ∀ y, a2 = some y → y.block < w.heap.size := fun y e => by
    obtain ⟨b, o, eb, hc⟩ := (unhide HR2).at (i := 0) oup
    rw [e] at eb; cases eb
    exact World.block_lt_of_cell? w _ (hc 0 oup)
  have HV : Hid (∀ wx, Below (w.heap.size + 1) w0 wx → Box wx w.heap.size m a1 c1 a2 c2 ∧ RdL .i64 wx a1 m.nx ∧ RdL .i64 wx a2 m.out) := fun wx hx => by
    have hx' : Below w0.heap.size w0 wx := by rw [unhide HZ0]; exact hx
    exact ⟨(unhide HA).below hx', (unhide HR1).below (bstep (unhide HB0) hx'), (unhide HR2).below (bstep (unhide HB0) hx')⟩
  have HSH := hide (addShortest_any m a1 c1 a2 c2 n k (w.heap.size + 1) w1.heap.size (w.heap.size + 1) 1 w2 (unhide HR) (unhide HN) (unhide HK) o1 (unhide HV w2 b2).2.1 (unhide HV w2 b2).2.2 (fun y e => by have := ha1 y e; omega) (fun y e => by have := ha2 y e; omega) (Nat.le_refl _) (by rw [hw2, World.size_alloc]; omega) S2)
  unfold mval at HSH
  generalize hvb : w1.heap.size = vb at HSH z1 ⊢
  have HB2 := hide b2
  clear b2 S2 nxp oup ha1 ha2
  rw [← hw2]
  refine (unhide HSH).mono ?_
  rintro e w3 ⟨rfl, cnt, ls, vk, MK, M, so, ou, bx, hvk⟩
  have HI0 : Hid (∃ (l cnt : Nat) (ls : Nat → Nat) (vk : Value) (MK : List Mrk) (M : List (List Int × Nat × Nat)), SvO m n (w.heap.size + 1) w3 vb (w.heap.size + 1) cnt ls vk MK M ∧ OutI m n l 0 ls M ∧ Below (w.heap.size + 1) w0 w3) := by
    refine ⟨_, cnt, ls, vk, MK, M, so, ou, (unhide HB2).trans (bx.below (fun j hj => ?_) ?_)⟩
    · rcases hj with hj | hj <;> omega
    · rw [hw2, World.size_alloc]; omega
  clear so ou bx hvk HSH hw2 HB2 HO1 HB1
  go_wp2
  go_step3
  go_wp2
  go_loopw [4] (fun v wx => ∃ b : Nat, v = .int .i64 b ∧ ∃ (l cnt : Nat) (ls : Nat → Nat) (vk : Value) (MK : List Mrk) (M : List (List Int × Nat × Nat)), SvO m n (w.heap.size + 1) wx vb (w.heap.size + 1) cnt ls vk MK M ∧ OutI m n l b ls M ∧ Below (w.heap.size + 1) w0 wx) (fun v _ => 1048577 - (intOf v).toNat)
  case atStart => exact ⟨0, rfl, unhide HI0⟩
  case round =>
    obtain ⟨b, rfl, l, cnt, ls, vk, MK, M, so, ou, hbl⟩ := hrel
    clear HI0
    obtain ⟨wo, hwo⟩ : ∃ wo, wo = wr := ⟨_, rfl⟩
    subst wr
    obtain ⟨q0, q1, q2, -, -, -⟩ := sv_cells so.o
    have HLN := hide so.len
    have hMn : M.length ≤ n * n := ou.sv.len
    have hMn2 : MK.length ≤ 1048576 := by rw [so.len]; exact Nat.le_trans hMn (Nat.mul_le_mul hn2 hn2)
    have hb1 : b ≤ MK.length := by rw [so.len]; exact ou.b1
    clear hMn
    obtain ⟨ka, kc, ek⟩ := so.mo.shape
    subst ek
    have HSO := hide so
    have HOU := hide ou
    have HBL := hide hbl
    by_cases hlt : b < MK.length
    · have hlt' : (b : Int) < (MK.length : Int) := by omega
      obtain ⟨g0, kc', ek, hkc, hkm, hgB, hgz, hgc, -⟩ := so.mo.pos mkl_len mk0 (by omega)
      obtain ⟨rfl, rfl⟩ : ka = some ⟨g0, 0, none⟩ ∧ kc = kc' := by cases ek; exact ⟨rfl, rfl⟩
      obtain ⟨p0, p1, p2, p3, p4, p5⟩ := (unhide HV wo hbl).1
      have HGC := hide hgc
      have HI1 : Hid (∃ (cnt : Nat) (ls : Nat → Nat) (vk : Value) (MK' : List Mrk) (M : List (List Int × Nat × Nat)), SfI m n k (w.heap.size + 1) w0 vb (w.heap.size + 1) l b MK.length 0 0 g0 wo cnt ls vk MK' M) := by
        have hlv := ou.level (k := k)
        rw [← so.len] at hlv
        exact ⟨cnt, ls, _, MK, M, so, hlv, hbl, so.d2 g0 rfl, hgz, fun j c hj hc => hgc j c hj hc⟩
      clear so ou hbl ek hgc HGC
      go_wp2
      clear HSO HOU HBL q0 q1 q2 p0 p1 p2 p3 p4 p5 hlt' HLN
      generalize MK.length = e at *
      go_loopw [29] (fun v wx => ∃ x : Nat, v = .int .i64 x ∧ x ≤ k ∧ ∃ (cnt : Nat) (ls : Nat → Nat) (vk : Value) (MK : List Mrk) (M : List (List Int × Nat × Nat)), SfI m n k (w.heap.size + 1) w0 vb (w.heap.size + 1) l b e x 0 g0 wx cnt ls vk MK M) (fun v _ => k - (intOf v).toNat)
      case atStart => exact ⟨0, rfl, Nat.zero_le _, unhide HI1⟩
      case round =>
        obtain ⟨x, rfl, hx, hI⟩ := hrel
        clear HI1
        obtain ⟨wp, hwp⟩ : ∃ wp, wp = wr := ⟨_, rfl⟩
        subst wr
        have HI2 := hide hI
        clear hI
        by_cases hxk : x < k
        · have hxk' : (x : Int) < m.k := by have := unhide HK; omega
          go_wp2
          go_loopw [34] (fun v wx => ∃ i : Nat, v = .int .i64 i ∧ i ≤ e - b ∧ ∃ (cnt : Nat) (ls : Nat → Nat) (vk : Value) (MK : List Mrk) (M : List (List Int × Nat × Nat)), SfI m n k (w.heap.size + 1) w0 vb (w.heap.size + 1) l b e x i g0 wx cnt ls vk MK M) (fun v _ => (e - b) - (intOf v).toNat)
          case atStart => exact ⟨0, rfl, Nat.zero_le _, unhide HI2⟩
          case round =>
            obtain ⟨i, rfl, hi, cnt, ls, vk, MK, M, hI⟩ := hrel
            clear HI2
            by_cases hie : i < e - b
            · have hie' : (i : Int) < ((e - b : Nat) : Int) := by omega
              have HI := hide hI
              have hM : b + i < M.length := by have := hI.lv.el; omega
              have hkk : ∀ c, c < 4 → wr.cell? ⟨g0, b * 4 + i * 4 + c, none⟩ = (mkl (MK.getD (b + i) mk0))[c]? := fun c hc => by
                rw [← Nat.add_mul]; exact hI.cs (b + i) c (by omega) hc
              have hwd := (hI.so.wd (b + i) hM).1
              have hsd := (hI.so.sd (b + i) hM)
              have HWV : Hid ((MK.getD (b + i) mk0).wv = (MK.getD (b + i) mk0).wv) := rfl
              generalize hkd : MK.getD (b + i) mk0 = kk at hkk hwd hsd
              obtain ⟨wa, wn, wc, sa, sn, sc, s, t⟩ := kk
              obtain ⟨rfl, hsd⟩ : sn = n ∧ _ := hsd
              have HKK := hide hkd
              have HSD := hide hsd
              have y0 : wr.cell? ⟨g0, b * 4 + i * 4, none⟩ = some (.slice wa wn wc) := hkk 0 (by omega)
              have y1 : wr.cell? ⟨g0, b * 4 + i * 4 + 1, none⟩ = some (.slice sa sn sc) := hkk 1 (by omega)
              have y2 : wr.cell? ⟨g0, b * 4 + i * 4 + 2, none⟩ = some (.int .i64 (s : Int)) := hkk 2 (by omega)
              have y3 : wr.cell? ⟨g0, b * 4 + i * 4 + 3, none⟩ = some (.int .i64 (t : Int)) := hkk 3 (by omega)
              obtain ⟨-, v1, v2, -, -, -⟩ := sv_cells hI.so.o
              have hvl := hI.so.vlt
              have v1x : ∀ o, (wr.alloc o).cell? ⟨vb, 1, none⟩ = some (.int .i64 (cnt : Int)) := fun o => ((ballo wr o).cell (by exact hvl)).trans v1
              have v2x : ∀ o, (wr.alloc o).cell? ⟨vb, 2, none⟩ = some vk := fun o => ((ballo wr o).cell (by exact hvl)).trans v2
              have bo : ∀ o, Below (w.heap.size + 1) w0 (wr.alloc o) := fun o => hI.bl.trans ((ballo wr o).mono (by have := hI.bl.size; have := unhide HZ0; omega))
              have p3x : ∀ o, (wr.alloc o).cell? ⟨w.heap.size, 3, none⟩ = some (.int .i64 m.n) := fun o => (unhide HV _ (bo o)).1.p3
              have HBO := hide bo
              clear hI hkk hwd hkd hsd v1 v2 hvl bo HWV
              by_cases hcn : cnt = sn
              · have tcn : ((cnt : Int) == m.n) = true := by have := unhide HN; simp; omega
                have HFN : Hid (∀ o, SfPost m sn w (.returned vk) (wr.alloc o)) := fun o => ⟨_, _, _, cnt, ls, MK, M, rfl, (unhide HI).so.on (ballo wr o), (unhide HI).lv.sv.alone ((unhide HI).so.ct hcn), (unhide HB0).trans ((unhide HBO o).mono (by omega))⟩
                have HCN := hide hcn
                clear hcn
                go_wp2
                go_ret
                exact unhide HFN _
              · have tcn : ((cnt : Int) == m.n) = false := by have := unhide HN; simp; omega
                go_wp2
                obtain ⟨wq, hwq⟩ : ∃ wq, wq = wr.alloc (.cells #[.slice wa wn wc, .slice sa sn sc, .int .i64 (s : Int), .int .i64 (t : Int)] 72) := ⟨_, rfl⟩
                have IQ := (unhide HI).on (wz := wq) (by rw [hwq]; exact ballo _ _) (by have := unhide HZ0; omega)
                have zq : wq.heap.size = wr.heap.size + 1 := by rw [hwq]; simp
                have hq := heap_alloc_new wr (.cells #[.slice wa wn wc, .slice sa sn sc, .int .i64 (s : Int), .int .i64 (t : Int)] 72)
                rw [← hwq] at hq
                have HQ0 : Hid (wq.cell? ⟨wr.heap.size, 0, none⟩ = some (.slice wa wn wc) ∧ wq.cell? ⟨wr.heap.size, 1, none⟩ = some (.slice sa sn sc)) := by
                  show _ ∧ _
                  unfold World.cell?; rw [hq]; exact ⟨rfl, rfl⟩
                have HSS : Hid (∀ wz, Below wq.heap.size wq wz → (wz.cell? ⟨w.heap.size, 0, none⟩ = some (.int .i64 m.kind) ∧ wz.cell? ⟨w.heap.size, 1, none⟩ = some (.int .i64 m.k) ∧ wz.cell? ⟨w.heap.size, 2, none⟩ = some (.int .i64 m.o) ∧ wz.cell? ⟨w.heap.size, 3, none⟩ = some (.int .i64 m.n) ∧ wz.cell? ⟨w.heap.size, 4, none⟩ = some (.slice a1 m.nx.length c1) ∧ wz.cell? ⟨w.heap.size, 5, none⟩ = some (.slice a2 m.out.length c2)) ∧ wz.cell? ⟨wr.heap.size, 0, none⟩ = some (.slice wa wn wc) ∧ wz.cell? ⟨wr.heap.size, 1, none⟩ = some (.slice sa sn sc)) := fun wz hz => by
                  obtain ⟨p0, p1, p2, p3, p4, p5⟩ := (unhide HV wz (IQ.bl.trans (hz.mono (by have := IQ.bl.size; have := unhide HZ0; omega)))).1
                  exact ⟨⟨p0, p1, p2, p3, p4, p5⟩, (hz.cell (by show wr.heap.size < _; omega)).trans (unhide HQ0).1, (hz.cell (by show wr.heap.size < _; omega)).trans (unhide HQ0).2⟩
                have HSB : Hid (∀ wz, Below wq.heap.size wq wz → Calls Try.prog 53 #[mval m a1 c1 a2 c2, .int .i64 (x : Int), .slice sa sn sc] wz fun e w' => ∃ v, e = .returned v ∧ Own w' wq.heap.size v sn (fun s => (sdL m sn (wdA M (b + i))).getD (nxt m ((s : Nat) : Int) (x : Int)).toNat 0) ∧ Below wq.heap.size wq w' ∧ Below wz.heap.size wz w') := fun wz hz => by
                  have hv := unhide HV wz (IQ.bl.trans (hz.mono (by have := IQ.bl.size; have := unhide HZ0; omega)))
                  refine (saidBehind_any m a1 c1 a2 c2 sn k x (sdL m sn (wdA M (b + i))) sa sc wz (unhide HR) (unhide HN) (unhide HK) hv.2.1 hxk ((unhide HSD).below (bstep (by rw [hwq]; exact ballo _ _) hz)) (sdL_len _ _ _)).mono ?_
                  rintro e w' ⟨v, rfl, ho, hb⟩
                  exact ⟨v, rfl, Own.base ho hz.size, bstep hz hb, hb⟩
                have HAD : Hid (∀ w5 v5 W g1 g2, Own w5 wq.heap.size v5 sn (fun s => (sdL m sn (wdA M (b + i))).getD (nxt m ((s : Nat) : Int) (x : Int)).toNat 0) → Below w5.heap.size w5 W → Pcs wq W (x : Int) g1 g2 (.slice wa wn wc) → Calls Try.prog 52 #[.pointer (some ⟨vb, 0, none⟩), v5, .slice (some ⟨g2, 0, none⟩) 2 2] W fun e' wz => e' = .returned (.tuple #[]) ∧ (∃ (cnt : Nat) (ls : Nat → Nat) (vk : Value) (MK : List Mrk) (M : List (List Int × Nat × Nat)), SfI m sn k (w.heap.size + 1) w0 vb (w.heap.size + 1) l b e x (i + 1) g0 wz cnt ls vk MK M) ∧ (wz.cell? ⟨w.heap.size, 0, none⟩ = some (.int .i64 m.kind) ∧ wz.cell? ⟨w.heap.size, 1, none⟩ = some (.int .i64 m.k) ∧ wz.cell? ⟨w.heap.size, 2, none⟩ = some (.int .i64 m.o) ∧ wz.cell? ⟨w.heap.size, 3, none⟩ = some (.int .i64 m.n) ∧ wz.cell? ⟨w.heap.size, 4, none⟩ = some (.slice a1 m.nx.length c1) ∧ wz.cell? ⟨w.heap.size, 5, none⟩ = some (.slice a2 m.out.length c2)) ∧ wz.cell? ⟨wr.heap.size, 0, none⟩ = some (.slice wa wn wc) ∧ wz.cell? ⟨wr.heap.size, 1, none⟩ = some (.slice sa sn sc)) := fun w5 v5 W g1 g2 ho hw hp => by
                  refine (sift_step IQ (unhide HR) (unhide HN) (unhide HK) o1 (by have := unhide HZ0; omega) hxk (by omega) W hp.1 g1 g2 v5 hp.2.1 (by have h := hp.2.2; unfold pcV at h; rw [unhide HKK]; exact h) (ho.below hw)).mono ?_
                  rintro e' wz ⟨rfl, hnx, bx⟩
                  have h8 := unhide HSS W hp.1
                  have nX : ∀ j, (j = w.heap.size ∨ j = wr.heap.size) → ¬ (j = vb ∨ j = w.heap.size + 1 ∨ vk.ownBlock = some j) := fun j hj => by
                    have l1 := (unhide HI).so.vlt
                    have l2 := (unhide HI).so.lo.lt.2
                    have l3 := (unhide HI).so.bv
                    rintro (h | h | h)
                    · omega
                    · omega
                    · have := (unhide HI).so.mo.lt h
                      omega
                  obtain ⟨⟨p0, p1, p2, p3, p4, p5⟩, p6, p7⟩ := h8
                  exact ⟨rfl, hnx, ⟨bx.cell p0 (nX _ (.inl rfl)), bx.cell p1 (nX _ (.inl rfl)), bx.cell p2 (nX _ (.inl rfl)), bx.cell p3 (nX _ (.inl rfl)), bx.cell p4 (nX _ (.inl rfl)), bx.cell p5 (nX _ (.inl rfl))⟩, bx.cell p6 (nX _ (.inr rfl)), bx.cell p7 (nX _ (.inr rfl))⟩
                unfold mval at HSB
                have hs0 := unhide HSS wq.drew ((Below.refl _ _).drew)
                rw [← hwq]
                clear IQ hq hwq zq y0 y1 y2 y3 v1x v2x p3x tcn hcn hM
                go_region_held (fun wz => (wz.cell? ⟨w.heap.size, 0, none⟩ = some (.int .i64 m.kind) ∧ wz.cell? ⟨w.heap.size, 1, none⟩ = some (.int .i64 m.k) ∧ wz.cell? ⟨w.heap.size, 2, none⟩ = some (.int .i64 m.o) ∧ wz.cell? ⟨w.heap.size, 3, none⟩ = some (.int .i64 m.n) ∧ wz.cell? ⟨w.heap.size, 4, none⟩ = some (.slice a1 m.nx.length c1) ∧ wz.cell? ⟨w.heap.size, 5, none⟩ = some (.slice a2 m.out.length c2)) ∧ wz.cell? ⟨wr.heap.size, 0, none⟩ = some (.slice wa wn wc) ∧ wz.cell? ⟨wr.heap.size, 1, none⟩ = some (.slice sa sn sc)) (first | with_reducible exact hs6 | with_reducible exact hs5 | with_reducible exact hs0 | with_reducible exact unhide HSS _ ((ballo _ _).drew) | with_reducible exact unhide HSS _ ((bstep (ballo _ _) (ballo _ _)).drew) | with_reducible exact unhide HSS _ (bstep hbq5 (ballo _ _)) | with_reducible exact unhide HSS _ (bstep (bstep hbq5 (ballo _ _)) (ballo _ _)) | go_keep)
                  (first
                  | (go_at_call 53; (first | with_reducible refine (unhide HSB _ ((Below.refl _ _).drew)).mono ?_ | with_reducible refine (unhide HSB _ ((ballo _ _).drew)).mono ?_ | with_reducible refine (unhide HSB _ ((bstep (ballo _ _) (ballo _ _)).drew)).mono ?_); rintro e w5 ⟨v5, rfl, ho5, hbq5, hb5⟩; have hs5 := unhide HSS w5 hbq5)
                  | (go_at_call 52; (first | with_reducible refine (unhide HAD w5 v5 _ _ _ ho5 (bstep (ballo _ _) (ballo _ _)) (pcs1 hbq5)).mono ?_ | with_reducible refine (unhide HAD w5 v5 _ _ _ ho5 (ballo _ _) (pcs2d hb5)).mono ?_ | with_reducible refine (unhide HAD w5 v5 _ _ _ ho5 (Below.refl _ _) (pcs3d hb5)).mono ?_); rintro e w6 ⟨rfl, hnx, hs6⟩))
                all_goals
                  have HNX := hide hnx
                  clear hnx ho5 hbq5 hb5 hs5 hs6 hs0 HAD HSB HSS
                  go_wp2
                  go_roundw
                  case rel => exact ⟨i + 1, by go_num, hie, unhide HNX⟩
                  case measure => simp [intOf]; omega
            · have hie' : ¬ (i : Int) < ((e - b : Nat) : Int) := by omega
              have HI3 : Hid (∃ (cnt : Nat) (ls : Nat → Nat) (vk : Value) (MK : List Mrk) (M : List (List Int × Nat × Nat)), SfI m n k (w.heap.size + 1) w0 vb (w.heap.size + 1) l b e (x + 1) 0 g0 wr cnt ls vk MK M) := ⟨cnt, ls, vk, MK, M, hI.so, hI.lv.row (by have := hI.lv.be; omega), hI.bl, hI.gn, hI.gz, hI.cs⟩
              clear hI
              go_wp2
              go_roundw
              case rel => exact ⟨x + 1, by go_num, hxk, unhide HI3⟩
              case measure => simp [intOf]; omega
        · have hxk' : ¬ (x : Int) < m.k := by have := unhide HK; omega
          obtain rfl : x = k := by omega
          have HI3 : Hid (∃ (l cnt : Nat) (ls : Nat → Nat) (vk : Value) (MK : List Mrk) (M : List (List Int × Nat × Nat)), SvO m n (w.heap.size + 1) wp vb (w.heap.size + 1) cnt ls vk MK M ∧ OutI m n l e ls M ∧ Below (w.heap.size + 1) w0 wp) := by
            obtain ⟨cnt, ls, vk, MK, M, hI⟩ := unhide HI2
            exact ⟨l + 1, cnt, ls, vk, MK, M, hI.so, hI.lv.end (unhide HR) (unhide HN) (unhide HK), hI.bl⟩
          clear HI2
          go_wp2
          go_roundw
          case rel => exact ⟨e, rfl, unhide HI3⟩
          case measure => simp [intOf]; omega
    · have hlt' : ¬ (b : Int) < (MK.length : Int) := by omega
      have HFN : Hid (SfPost m n w (.returned (.slice ka MK.length kc)) wo) := ⟨_, _, _, cnt, ls, MK, M, rfl, so, ou.done (unhide HR) (unhide HN) (by have := unhide HLN; omega), (unhide HB0).trans (hbl.mono (by omega))⟩
      clear so ou hbl
      go_wp2
      go_ret
      exact unhide HFN
end Go.Proofs.Ytknefgdcnacfoaa
