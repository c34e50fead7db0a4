/-
  The reference's Import.
-/
import Derived.Test.YtdnmabemollbeaaDoorTRTk
import Derived.Test.YtdnmabemollbeaaDoorURef
import Derived.Test.YtdnmabemollbeaaDoorTRm
import Derived.Test.YtdnmabemollbeaaDoorK21
namespace Go.Proofs.YtdnmabemollbeaaDoor
open Go.RowKit

/-- A piece in block k. -/
structure PcB (w : World) (k : Nat) (s : List UInt8) (lo hi e : Int) : Prop where
  p0 : w.cell? ⟨k, 0, none⟩ = some (.string ⟨s.toArray⟩)
  p1 : w.cell? ⟨k, 1, none⟩ = some (.int .i64 lo)
  p2 : w.cell? ⟨k, 2, none⟩ = some (.int .i64 hi)
  p3 : w.cell? ⟨k, 3, none⟩ = some (.int .i64 e)
theorem PcB.made (w : World) (s : List UInt8) (lo hi e : Int) (t : TypeId) : PcB (w.alloc (.cells #[.string ⟨s.toArray⟩, .int .i64 lo, .int .i64 hi, .int .i64 e] t)) w.heap.size s lo hi e := by
  refine ⟨?_, ?_, ?_, ?_⟩ <;> simp [World.cell?_alloc_new]
theorem PcB.below {w w' : World} {k : Nat} {s : List UInt8} {lo hi e : Int} (h : PcB w k s lo hi e) (hb : Below w.heap.size w w') : PcB w' k s lo hi e := by
  have hl := World.block_lt_of_cell? w _ h.p0
  exact ⟨by rw [hb.cell (by exact hl)]; exact h.p0, by rw [hb.cell (by exact hl)]; exact h.p1, by rw [hb.cell (by exact hl)]; exact h.p2, by rw [hb.cell (by exact hl)]; exact h.p3⟩
theorem PcB.set {w : World} {k : Nat} {s : List UInt8} {lo hi e : Int} (h : PcB w k s lo hi e) {p : Addr} (hp : p.block ≠ k) (u : Value) : PcB (w.setCell p u) k s lo hi e := by
  have ec : ∀ i, (w.setCell p u).cell? ⟨k, i, none⟩ = w.cell? ⟨k, i, none⟩ := fun i => World.cell?_setCell_other _ _ _ _ (by intro e; exact hp (by rw [e]))
  exact ⟨by rw [ec]; exact h.p0, by rw [ec]; exact h.p1, by rw [ec]; exact h.p2, by rw [ec]; exact h.p3⟩

/-- The world that Import begins in: the result, five pieces, the machine. -/
def riW (kd : Int) (w : World) : World := ((((((w.alloc (.cells #[.int .i64 0, .int .i64 0, .int .i64 0, .int .i64 0, .slice none 0 0, .slice none 0 0] 24)).alloc (.cells #[.string ⟨#[]⟩, .int .i64 1, .int .i64 64, .int .i64 1] 73)).alloc (.cells #[.string ⟨#[]⟩, .int .i64 1, .int .i64 64, .int .i64 33] 73)).alloc (.cells #[.string ⟨#[]⟩, .int .i64 1, .int .i64 1024, .int .i64 3] 73)).alloc (.cells #[.string ⟨#[32]⟩, .int .i64 0, .int .i64 0, .int .i64 0] 73)).alloc (.cells #[.string ⟨#[10]⟩, .int .i64 0, .int .i64 0, .int .i64 0] 73)).alloc (.cells #[.int .i64 kd, .int .i64 0, .int .i64 2, .int .i64 0, .slice none 0 0, .slice none 0 0] 24)
theorem riW_below (kd : Int) (w : World) : Below w.heap.size w (riW kd w) := balloc (balloc (balloc (balloc (balloc (balloc (ballo _ _) _) _) _) _) _) _
theorem riW_size (kd : Int) (w : World) : (riW kd w).heap.size = w.heap.size + 1 + 1 + 1 + 1 + 1 + 1 + 1 := by simp [riW]
theorem riW_k (kd : Int) (w : World) : PcB (riW kd w) (w.heap.size + 1) [] 1 64 1 := by
  have h := PcB.made (w.alloc (.cells #[.int .i64 0, .int .i64 0, .int .i64 0, .int .i64 0, .slice none 0 0, .slice none 0 0] 24)) [] 1 64 1 73
  rw [World.size_alloc] at h
  exact h.below (balloc (balloc (balloc (balloc (ballo _ _) _) _) _) _)
theorem riW_o (kd : Int) (w : World) : PcB (riW kd w) (w.heap.size + 1 + 1) [] 1 64 33 := by
  have h := PcB.made ((w.alloc (.cells #[.int .i64 0, .int .i64 0, .int .i64 0, .int .i64 0, .slice none 0 0, .slice none 0 0] 24)).alloc (.cells #[.string ⟨#[]⟩, .int .i64 1, .int .i64 64, .int .i64 1] 73)) [] 1 64 33 73
  rw [World.size_alloc, World.size_alloc] at h
  exact h.below (balloc (balloc (balloc (ballo _ _) _) _) _)
theorem riW_n (kd : Int) (w : World) : PcB (riW kd w) (w.heap.size + 1 + 1 + 1) [] 1 1024 3 := by
  have h := PcB.made (((w.alloc (.cells #[.int .i64 0, .int .i64 0, .int .i64 0, .int .i64 0, .slice none 0 0, .slice none 0 0] 24)).alloc (.cells #[.string ⟨#[]⟩, .int .i64 1, .int .i64 64, .int .i64 1] 73)).alloc (.cells #[.string ⟨#[]⟩, .int .i64 1, .int .i64 64, .int .i64 33] 73)) [] 1 1024 3 73
  rw [World.size_alloc, World.size_alloc, World.size_alloc] at h
  exact h.below (balloc (balloc (ballo _ _) _) _)
theorem riW_b (kd : Int) (w : World) : PcB (riW kd w) (w.heap.size + 1 + 1 + 1 + 1) [32] 0 0 0 := by
  have h := PcB.made ((((w.alloc (.cells #[.int .i64 0, .int .i64 0, .int .i64 0, .int .i64 0, .slice none 0 0, .slice none 0 0] 24)).alloc (.cells #[.string ⟨#[]⟩, .int .i64 1, .int .i64 64, .int .i64 1] 73)).alloc (.cells #[.string ⟨#[]⟩, .int .i64 1, .int .i64 64, .int .i64 33] 73)).alloc (.cells #[.string ⟨#[]⟩, .int .i64 1, .int .i64 1024, .int .i64 3] 73)) [32] 0 0 0 73
  rw [World.size_alloc, World.size_alloc, World.size_alloc, World.size_alloc] at h
  exact h.below (balloc (ballo _ _) _)
theorem riW_e (kd : Int) (w : World) : PcB (riW kd w) (w.heap.size + 1 + 1 + 1 + 1 + 1) [10] 0 0 0 := by
  have h := PcB.made (((((w.alloc (.cells #[.int .i64 0, .int .i64 0, .int .i64 0, .int .i64 0, .slice none 0 0, .slice none 0 0] 24)).alloc (.cells #[.string ⟨#[]⟩, .int .i64 1, .int .i64 64, .int .i64 1] 73)).alloc (.cells #[.string ⟨#[]⟩, .int .i64 1, .int .i64 64, .int .i64 33] 73)).alloc (.cells #[.string ⟨#[]⟩, .int .i64 1, .int .i64 1024, .int .i64 3] 73)).alloc (.cells #[.string ⟨#[32]⟩, .int .i64 0, .int .i64 0, .int .i64 0] 73)) [10] 0 0 0 73
  rw [World.size_alloc, World.size_alloc, World.size_alloc, World.size_alloc, World.size_alloc] at h
  exact h.below (ballo _ _)

theorem riW_m (kd : Int) (w : World) : Mo (riW kd w) (w.heap.size + 1 + 1 + 1 + 1 + 1 + 1) (w.heap.size + 1 + 1 + 1 + 1 + 1 + 1 + 1) kd 0 2 0 (.slice none 0 0) (.slice none 0 0) [] [] := by
  have h := Mo.made (((((w.alloc (.cells #[.int .i64 0, .int .i64 0, .int .i64 0, .int .i64 0, .slice none 0 0, .slice none 0 0] 24)).alloc (.cells #[.string ⟨#[]⟩, .int .i64 1, .int .i64 64, .int .i64 1] 73)).alloc (.cells #[.string ⟨#[]⟩, .int .i64 1, .int .i64 64, .int .i64 33] 73)).alloc (.cells #[.string ⟨#[]⟩, .int .i64 1, .int .i64 1024, .int .i64 3] 73)).alloc (.cells #[.string ⟨#[32]⟩, .int .i64 0, .int .i64 0, .int .i64 0] 73) |>.alloc (.cells #[.string ⟨#[10]⟩, .int .i64 0, .int .i64 0, .int .i64 0] 73)) (w.heap.size + 1 + 1 + 1 + 1 + 1 + 1 + 1) kd 0 2 0 24
  simp only [World.size_alloc] at h
  exact h
/-- The first lines' pieces as rows. -/
theorem row_m (w : World) (t : TypeId) : PRow (w.alloc (.cells #[.string ⟨#[109, 101, 97, 108, 121, 32]⟩, .int .i64 0, .int .i64 0, .int .i64 0, .string ⟨#[]⟩, .int .i64 1, .int .i64 64, .int .i64 1, .string ⟨#[32]⟩, .int .i64 0, .int .i64 0, .int .i64 0, .string ⟨#[]⟩, .int .i64 1, .int .i64 64, .int .i64 33, .string ⟨#[32]⟩, .int .i64 0, .int .i64 0, .int .i64 0, .string ⟨#[]⟩, .int .i64 1, .int .i64 1024, .int .i64 3, .string ⟨#[10]⟩, .int .i64 0, .int .i64 0, .int .i64 0] t)) w.heap.size (hdR 2) := by
  intro x hx
  have hx' : x < 7 := hx
  match x, hx' with
  | 0, _ | 1, _ | 2, _ | 3, _ | 4, _ | 5, _ | 6, _ => exact ⟨by rw [World.cell?_alloc_new]; rfl, by rw [World.cell?_alloc_new]; rfl, by rw [World.cell?_alloc_new]; rfl, by rw [World.cell?_alloc_new]; rfl⟩
theorem row_d (w : World) (t : TypeId) : PRow (w.alloc (.cells #[.string ⟨#[100, 102, 97, 32]⟩, .int .i64 0, .int .i64 0, .int .i64 0, .string ⟨#[]⟩, .int .i64 1, .int .i64 64, .int .i64 1, .string ⟨#[32]⟩, .int .i64 0, .int .i64 0, .int .i64 0, .string ⟨#[]⟩, .int .i64 1, .int .i64 1024, .int .i64 3, .string ⟨#[10]⟩, .int .i64 0, .int .i64 0, .int .i64 0] t)) w.heap.size (hdR 1) := by
  intro x hx
  have hx' : x < 5 := hx
  match x, hx' with
  | 0, _ | 1, _ | 2, _ | 3, _ | 4, _ => exact ⟨by rw [World.cell?_alloc_new]; rfl, by rw [World.cell?_alloc_new]; rfl, by rw [World.cell?_alloc_new]; rfl, by rw [World.cell?_alloc_new]; rfl⟩
theorem ok_m : Pok (hdR 2) := fun s h => by
  simp [hdR, hdP] at h
  rcases h with rfl | rfl | rfl <;> decide
theorem ok_d : Pok (hdR 1) := fun s h => by
  simp [hdR, hdP] at h
  rcases h with rfl | rfl | rfl <;> decide

/-- What Import leaves. -/
def RiPost (w w' : World) (b : List UInt8) (e : Ending) : Prop :=
  ∃ (a1 : Option Addr) (c1 : Nat) (a2 : Option Addr) (c2 : Nat), e = .returned (.tuple #[mval (imV b (rfP b)).1 a1 c1 a2 c2, .int .i64 (imV b (rfP b)).2.1, .int .i64 (imV b (rfP b)).2.2]) ∧ MOwn w' w.heap.size (imV b (rfP b)).1 a1 c1 a2 c2 ∧ Below w.heap.size w w'
theorem ri_bad {b : List UInt8} {kd : Int} {p : Nat} {er : Int} (hb : b.length ≤ 20000) (hk : kdR b = kd) (h : tk b 0 (hdR kd) = .error (p, er)) : imV b (rfP b) = (mcZ, er, (p : Int)) := by
  unfold rfP rfK
  rw [if_neg (by omega), hk, h]; rfl

set_option maxRecDepth 100000 in
set_option maxHeartbeats 4000000 in
theorem rimport_m_bad (a : Option Addr) (c : Nat) (b : List UInt8) (w : World) (hr : RdL .u8 w a (zs b)) (hb : b.length ≤ 20000) (hm : b.head? = some 109) (p : Nat) (er : Int) (ht : tk b 0 (hdR 2) = .error (p, er)) :
    Calls Tryd.prog 20 #[.slice a b.length c] w fun e w' => RiPost w w' b e := by
  have hb' : ¬ (16777216 < (b.length : Int)) := by omega
  have hkd : kdR b = 2 := by unfold kdR; rw [if_pos hm]
  have HV := hide (ri_bad hb hkd ht)
  have hne : 0 < er := (tk_err ((good_hd 2).app (fun lo hi e h => by simp at h)).errs ht).1
  have hBW := riW_below 2 w
  have hBT := balloc hBW (.cells #[.string ⟨#[109, 101, 97, 108, 121, 32]⟩, .int .i64 0, .int .i64 0, .int .i64 0, .string ⟨#[]⟩, .int .i64 1, .int .i64 64, .int .i64 1, .string ⟨#[32]⟩, .int .i64 0, .int .i64 0, .int .i64 0, .string ⟨#[]⟩, .int .i64 1, .int .i64 64, .int .i64 33, .string ⟨#[32]⟩, .int .i64 0, .int .i64 0, .int .i64 0, .string ⟨#[]⟩, .int .i64 1, .int .i64 1024, .int .i64 3, .string ⟨#[10]⟩, .int .i64 0, .int .i64 0, .int .i64 0] 73)
  have htk := take_any a c b 0 (riW 2 w).heap.size 7 (hdR 2) _ (hr.below hBT) (by omega) (Nat.zero_le _) (row_m (riW 2 w) 73) ok_m (by decide)
  rw [ht, riW_size] at htk
  unfold TkPost at htk
  have Z0 : Box (riW 2 w) w.heap.size mcZ none 0 none 0 := (Box.alloc w mcZ none 0 none 0 24).below (balloc (balloc (balloc (balloc (balloc (ballo _ _) _) _) _) _) _)
  have F0 : ∀ i, ((riW 2 w)).frozen? ⟨w.heap.size, i, none⟩ = false := fun i => by unfold riW; simp only [frozen?_alloc_cells]; exact frz_new w (by omega)
  have ZT := Z0.below (ballo (riW 2 w) (.cells #[.string ⟨#[109, 101, 97, 108, 121, 32]⟩, .int .i64 0, .int .i64 0, .int .i64 0, .string ⟨#[]⟩, .int .i64 1, .int .i64 64, .int .i64 1, .string ⟨#[32]⟩, .int .i64 0, .int .i64 0, .int .i64 0, .string ⟨#[]⟩, .int .i64 1, .int .i64 64, .int .i64 33, .string ⟨#[32]⟩, .int .i64 0, .int .i64 0, .int .i64 0, .string ⟨#[]⟩, .int .i64 1, .int .i64 1024, .int .i64 3, .string ⟨#[10]⟩, .int .i64 0, .int .i64 0, .int .i64 0] 73))
  have h0 : 0 < b.length := by cases b with
    | nil => cases hm
    | cons x b => simp
  obtain ⟨g, off, rfl, hc⟩ := (hr.below hBW).byte h0
  have hc0 := hc 0 h0
  have h0' : (0 : Int) < (b.length : Int) := by omega
  have hv : bt8 b 0 = 109 := by
    cases b with
    | nil => cases hm
    | cons x b => simp at hm; subst hm; rfl
  rw [hv, Nat.add_zero] at hc0
  obtain ⟨k0, k1, k2, k3⟩ := riW_k 1 w
  obtain ⟨o0, o1, o2, o3⟩ := riW_o 1 w
  obtain ⟨n0, n1, n2, n3⟩ := riW_n 1 w
  obtain ⟨s0, s1, s2, s3⟩ := riW_b 1 w
  obtain ⟨e0, e1, e2, e3⟩ := riW_e 1 w
  have hc1 : (riW 1 w).cell? ⟨g, off, none⟩ = some (.int .u8 109) := by
    obtain ⟨g', off', e, hc'⟩ := (hr.below (riW_below 1 w)).byte h0
    cases e
    have := hc' 0 h0
    rw [hv, Nat.add_zero] at this
    exact this
  clear hc hc0 hm hv hkd ht
  unfold riW at hc1 k0 k1 k2 k3 o0 o1 o2 o3 n0 n1 n2 n3 s0 s1 s2 s3 e0 e1 e2 e3 htk
  go_enter Tryd.func20, Tryd.ntmps20
  go_wp2_with fail
  refine htk.mono ?_
  rintro e w2 ⟨rfl, hb2⟩
  have hz2 := hBT.size
  have b2 := bstep hBT hb2
  have Z2 := ZT.below hb2
  have lW : w.heap.size < (riW 2 w).heap.size := by rw [riW_size]; omega
  have FT : ∀ i, w2.frozen? ⟨w.heap.size, i, none⟩ = false := fun i => frz_on (B := (riW 2 w).heap.size + 1) (by rw [frozen?_alloc_cells]; exact F0 i) (by rw [World.size_alloc] at hb2; exact hb2) (by omega)
  obtain ⟨z0, z1, z2, z3, z4, z5⟩ := id Z2
  have f0 := FT 0
  have f1 := FT 1
  have f2 := FT 2
  have f3 := FT 3
  have f4 := FT 4
  have f5 := FT 5
  have hsz2 : w.heap.size < w2.heap.size := World.block_lt_of_cell? w2 _ z0
  clear Z0 F0 ZT FT hBT hBW lW hb2 hz2 htk hc1 k0 k1 k2 k3 o0 o1 o2 o3 n0 n1 n2 n3 s0 s1 s2 s3 e0 e1 e2 e3
  go_wp2
  change bodyPost _ _ _ _ _ (six w2 w.heap.size mcZ none 0 none 0)
  have b3 := six_below b2 (b := w.heap.size) (by omega) mcZ none 0 none 0
  have Z3 : Box (six w2 w.heap.size mcZ none 0 none 0) _ _ _ _ _ _ := Z2.six mcZ none 0 none 0
  generalize six w2 w.heap.size mcZ none 0 none 0 = w6 at *
  obtain ⟨q0, q1, q2, q3, q4, q5⟩ := Z3
  refine bodyPost_ret (v := .tuple #[mval mcZ none 0 none 0, .int .i64 er, .int .i64 (p : Int)]) ?_ rfl ⟨none, 0, none, 0, by rw [unhide HV], by rw [unhide HV]; exact ⟨OwnL.nil _ _ _ _, OwnL.nil _ _ _ _, fun x e => by cases e⟩, b3⟩
  unfold mval
  simp [results, Tryd.results20, go_sem, q0, q1, q2, q3, q4, q5]

end Go.Proofs.YtdnmabemollbeaaDoor
