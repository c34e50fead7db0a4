/-
  What part of differ leaves: the classes parted by what is said.
-/
import Derived.Test.YtknefgdcnacfoaaDSplit
import Derived.Deep.RegionHeld
namespace Go.Proofs.Ytknefgdcnacfoaa
open Go.RowKit Go.Maps

/-- The first j places are new. -/
def mixT (ls : Nat → Nat) (sd : Nat → Int) (j u : Nat) : Nat := if u < j then fsG ls sd u else ls u
theorem mixT_step {ls : Nat → Nat} {sd : Nat → Int} {j : Nat} (u : Nat) : upN (mixT ls sd j) j (fsG ls sd j) u = mixT ls sd (j + 1) u := by
  unfold upN mixT
  by_cases c : u = j
  · rw [if_pos c, if_pos (by omega), c]
  · rw [if_neg c]
    by_cases d : u < j
    · rw [if_pos d, if_pos (by omega)]
    · rw [if_neg d, if_neg (by omega)]
theorem fsG_old {ls : Nat → Nat} {sd : Nat → Int} {j r : Nat} (h : first (eqG ls sd j) j = some r) : fsG ls sd j = r := by unfold fsG; rw [gf_old h]; rfl
theorem fsG_self {ls : Nat → Nat} {sd : Nat → Int} {j : Nat} (h : first (eqG ls sd j) j = none) : first (eqG ls sd j) (j + 1) = some j := by
  rcases first_cases (eqG ls sd j) j with ⟨_, hl⟩ | ⟨i, e, _⟩
  · exact first_some (by omega) (by unfold eqG; simp) hl
  · rw [h] at e; cases e
theorem fsG_new {ls : Nat → Nat} {sd : Nat → Int} {j : Nat} (h : first (eqG ls sd j) j = none) : fsG ls sd j = j := by unfold fsG; rw [fsG_self h]; rfl
theorem fsG_lt {n : Nat} {ls : Nat → Nat} {sd : Nat → Int} {t : Nat} (h : t < n) : fsG ls sd t < n := by have := (fsG_part n ls sd t h).1; omega
def PtPost (n : Nat) (ls : Nat → Nat) (sd : Nat → Int) (B vb gl : Nat) (vk : Value) (w : World) (e : Ending) (w' : World) : Prop :=
  e = .returned (.tuple #[]) ∧ ∃ c, w'.heap[vb]? = some (svC gl n c vk) ∧ OwT w' B gl n n (fsG ls sd) ∧ c ≤ n ∧ (c = n → ∀ t, t < n → fsG ls sd t = t) ∧ Bx (fun k => k = vb ∨ k = gl) w w'

set_option maxRecDepth 100000 in
set_option maxHeartbeats 4000000 in
theorem part_any (n : Nat) (ls : Nat → Nat) (sd : List Int) (B vb gl cnt : Nat) (vk : Value) (sa : Option Addr) (sc : Nat) (w : World) (hO : w.heap[vb]? = some (svC gl n cnt vk)) (lo : OwT w B gl n n ls) (hr : RdL .i64 w sa sd) (hl : sd.length = n) (hls : ∀ t, t < n → ls t < n) (hf : ∀ t, t < n → FitP (grp ls (fun i => sd.getD i 0) t)) (hvg : vb ≠ gl) (hsv : ∀ x, sa = some x → x.block ≠ vb ∧ x.block ≠ gl) (h1 : 1 ≤ n) (hn : n ≤ 1048576) :
    Calls Try.prog 68 #[.pointer (some ⟨vb, 0, none⟩), .slice sa n sc] w fun e w' => PtPost n ls (fun i => sd.getD i 0) B vb gl vk w e w' := by
  obtain ⟨w0, hw0⟩ : ∃ w0, w0 = w.alloc (.map #[] 0) := ⟨_, rfl⟩
  have b0 : Below w.heap.size w w0 := by rw [hw0]; exact ballo _ _
  have hvl : vb < w.heap.size := (Array.getElem?_eq_some_iff.1 hO).1
  have hgl := lo.lt.2
  have O0 : w0.heap[vb]? = some (svC gl n cnt vk) := (b0.block _ hvl).trans hO
  obtain ⟨k0, -, -, -, -, -⟩ := sv_cells O0
  obtain ⟨ab, ao, ea, hrc⟩ := hr.at (i := 0) (by omega)
  subst ea
  have hab : ab < w.heap.size := World.block_lt_of_cell? w _ (hrc 0 (by omega))
  have hsv' := hsv _ rfl
  have HM0 : Hid (GMap w0 w.heap.size n ls (fun i => sd.getD i 0) 0) := by rw [hw0]; exact GMap.start _ _ _ _
  have HO0 := hide O0
  have HLO : Hid (OwT w0 B gl n n (mixT ls (fun i => sd.getD i 0) 0)) := (lo.below b0).congr fun i _ => by unfold mixT; rw [if_neg (by omega)]
  have HRC : Hid (∀ i, i < n → w.cell? ⟨ab, ao + i, none⟩ = some (.int .i64 (sd.getD i 0))) := fun i hi => hrc i (by omega)
  have HLS := hide hls
  have HF := hide hf
  have HSV : Hid (ab ≠ vb ∧ ab ≠ gl) := hsv'
  have HB0 : Hid (Bx (fun k => k = gl) w w0) := Bx.of b0
  have hmm := @run_makeMap Try.prog
  rw [hw0] at k0
  clear hO lo hr hrc O0 b0 hls hf hsv hsv'
  go_enter Try.func68, Try.ntmps68
  go_wp2
  rw [← hw0]
  clear k0 hw0 hmm
  go_loopw [15] (fun vj wx => ∃ (j : Nat), vj = .int .i64 j ∧ j ≤ n ∧ wx.heap[vb]? = some (svC gl n cnt vk) ∧ OwT wx B gl n n (mixT ls (fun i => sd.getD i 0) j) ∧ GMap wx w.heap.size n ls (fun i => sd.getD i 0) j ∧ Bx (fun k => k = gl) w wx) (fun vj _ => n - (intOf vj).toNat)
  case atStart => exact ⟨0, rfl, Nat.zero_le _, unhide HO0, unhide HLO, unhide HM0, unhide HB0⟩
  case round =>
    obtain ⟨j, rfl, hj, hO, lo, hm, hbx⟩ := hrel
    clear HO0 HLO HM0 HB0
    have HO := hide hO
    have HLO := hide lo
    have HM := hide hm
    have HBX := hide hbx
    obtain ⟨k0, -, -, -, f1, -⟩ := sv_cells hO
    have hmlt := hm.lt
    by_cases hlt : j < n
    · have hlt' : (j : Int) < (n : Int) := by omega
      have hcg : wr.cell? ⟨gl, j, none⟩ = some (.int .i64 ((ls j : Nat) : Int)) := by
        have := (lo.at (by omega)).2.1 j hlt
        unfold mixT at this
        rw [if_neg (by omega)] at this
        exact this
      have hfg := (lo.at (by omega)).2.2 j
      have hcj : wr.cell? ⟨ab, ao + j, none⟩ = some (.int .i64 (sd.getD j 0)) := hbx.cell (unhide HRC j hlt) (unhide HSV).2
      have hft := unhide HF j hlt
      have HFT := hide hft
      obtain ⟨q, hq⟩ : ∃ q, q = ls j := ⟨_, rfl⟩
      obtain ⟨X, hX⟩ : ∃ X, X = sd.getD j 0 := ⟨_, rfl⟩
      rw [← hq] at hcg
      rw [← hX] at hcj
      have HGR : Hid (pvl (grp ls (fun i => sd.getD i 0) j) = .agg #[.int .i64 (q : Int), .int .i64 X]) := by show _ = _; rw [hq, hX]; rfl
      have HKP : Hid (∀ wz, Below wr.heap.size wr wz → wz.cell? ⟨vb, 0, none⟩ = some (.slice (some ⟨gl, 0, none⟩) n n) ∧ wz.cell? ⟨gl, j, none⟩ = some (.int .i64 (q : Int)) ∧ wz.cell? ⟨ab, ao + j, none⟩ = some (.int .i64 X)) := fun wz hz => by
        have K : ∀ {p : Addr} {y : Value}, wr.cell? p = some y → wz.cell? p = some y := fun h => (hz.cell (World.block_lt_of_cell? wr _ h)).trans h
        exact ⟨K k0, K hcg, K hcj⟩
      have BXd : Below wr.heap.size wr wr.drew := (Below.refl _ _).drew
      have hs0 := unhide HKP wr.drew BXd
      have hs1 := unhide HKP _ (Below.drew (ballo wr (.cells #[.int .i64 (0 : Int), .int .i64 (0 : Int)] 123)))
      have b8 : Below wr.heap.size wr (wr.alloc (.cells #[.int .i64 (q : Int), .int .i64 X] 123)).drew := Below.drew (ballo wr _)
      have hs2 := unhide HKP _ b8
      obtain ⟨w8, hw8⟩ : ∃ w8, w8 = (wr.alloc (.cells #[.int .i64 (q : Int), .int .i64 X] 123)).drew := ⟨_, rfl⟩
      have HN8 : Hid (Bxp w8 wr.heap.size ((q : Int), X)) := by
        refine Bxp.of (t := 123) ?_
        rw [hw8]; exact heap_alloc_new wr _
      have z8 : w8.heap.size = wr.heap.size + 1 := by rw [hw8]; exact World.size_alloc _ _
      clear hO lo hm hbx hq hX k0 hcg hcj hft
      go_wp2
      go_region_held (fun wz => wz.cell? ⟨vb, 0, none⟩ = some (.slice (some ⟨gl, 0, none⟩) n n) ∧ wz.cell? ⟨gl, j, none⟩ = some (.int .i64 (q : Int)) ∧ wz.cell? ⟨ab, ao + j, none⟩ = some (.int .i64 X)) (first | exact hs0 | exact hs1 | exact hs2 | go_keep) (fail)
      rw [← hw8] at b8 ⊢
      have HO8 := hide ((b8.block _ (Array.getElem?_eq_some_iff.1 (unhide HO)).1).trans (unhide HO))
      have HLO8 := hide ((unhide HLO).below b8)
      have HM8 := hide ((unhide HM).keep (b8.block _ hmlt))
      have HBX8 : Hid (Bx (fun k => k = gl) w w8) := Bx.trans (unhide HBX) (Bx.of b8 (X := fun _ => False)) (fun _ _ h => h.elim)
      obtain ⟨cc, hlk⟩ := (unhide HM8).look hlt (unhide HFT)
      rw [unhide HGR] at hlk
      clear hs0 hs1 hs2 HKP BXd HO HLO HM HBX hw8 b8
      obtain ⟨y0, y1, -, -⟩ := unhide HN8
      have y0 : w8.cell? ⟨wr.heap.size, 0, none⟩ = some (.int .i64 (q : Int)) := y0
      have y1 : w8.cell? ⟨wr.heap.size, 1, none⟩ = some (.int .i64 X) := y1
      cases hfs : first (eqG ls (fun i => sd.getD i 0) j) j with
      | some r =>
        rw [hfs] at hlk
        have hlk : (Instr.lookup 121 (.map (some w.heap.size)) (.agg #[.int .i64 (q : Int), .int .i64 X]) true).run Try.prog w8 = .ok (.tuple #[.int .i64 cc, .bool true]) w8 := hlk
        have hg := (unhide HM8).get hlt (unhide HFT) hfs
        rw [unhide HGR] at hg
        have HFS : Hid (fsG ls (fun i => sd.getD i 0) j = r) := fsG_old hfs
        have HSM : Hid ((first (eqG ls (fun i => sd.getD i 0) j) j).isSome = true) := by show _ = _; rw [hfs]; rfl
        clear hfs
        obtain ⟨k0, -, -, -, -, -⟩ := sv_cells (unhide HO8)
        obtain ⟨z, hcg⟩ : ∃ z : Int, w8.cell? ⟨gl, j, none⟩ = some (.int .i64 z) := ⟨_, ((unhide HLO8).at (by omega)).2.1 j hlt⟩
        have hfg := ((unhide HLO8).at (by omega)).2.2 j
        have hgd : (Instr.lookup 121 (.map (some w.heap.size)) (.agg #[.int .i64 (q : Int), .int .i64 X]) false).run Try.prog w8.drew = .ok (.int .i64 (r : Int)) w8.drew := by
          have h9 := ((unhide HM8).keep (w' := w8.drew) rfl).get hlt (unhide HFT) (r := r) (by
            obtain ⟨i, hi⟩ := Option.isSome_iff_exists.1 (unhide HSM)
            have := fsG_old hi
            rw [unhide HFS] at this
            rw [hi, this])
          rw [unhide HGR] at h9
          exact h9
        clear hg
        go_wp2
        go_big_region
        all_goals
          go_wp2
          go_roundw
          case rel =>
            refine ⟨j + 1, by go_num, hlt, ?_, ?_, ?_, ?_⟩
            · exact (Below.heap_setCell w8 ⟨gl, j, none⟩ _ _ hvg).trans (unhide HO8)
            · have h9 := (unhide HLO8).store j r
              rw [← unhide HFS] at h9
              exact (OwT.keep h9 (by rw [unhide HFS]; rfl)).congr fun u _ => mixT_step u
            · exact ((unhide HM8).old (unhide HSM)).keep (Below.heap_setCell w8 ⟨gl, j, none⟩ _ _ (by show w.heap.size ≠ gl; omega))
            · exact ((unhide HBX8).setCell (p := ⟨gl, j, none⟩) rfl _).drew
          case measure => simp [intOf]; omega
      | none =>
        rw [hfs] at hlk
        have hlk : (Instr.lookup 121 (.map (some w.heap.size)) (.agg #[.int .i64 (q : Int), .int .i64 X]) true).run Try.prog w8 = .ok (.tuple #[.int .i64 cc, .bool false]) w8 := hlk
        obtain ⟨w9, hpu, hm9, hg9⟩ := (unhide HM8).put hlt hn (unhide HF) hfs
        rw [unhide HGR] at hpu
        have HFS : Hid (fsG ls (fun i => sd.getD i 0) j = j) := fsG_new hfs
        have HSF : Hid (first (eqG ls (fun i => sd.getD i 0) j) (j + 1) = some j) := fsG_self hfs
        clear hfs
        have K9 : ∀ k, k < w8.heap.size → k ≠ w.heap.size → w9.heap[k]? = w8.heap[k]? := fun k hk hne => hg9.block k hk (fun e => hne (Option.some.inj e))
        have HO9 := hide ((K9 vb (by have := (Array.getElem?_eq_some_iff.1 (unhide HO8)).1; exact this) (by omega)).trans (unhide HO8))
        have HLO9 := hide ((unhide HLO8).keep (K9 gl (unhide HLO8).lt.2 (by omega)))
        have HN9 := hide ((unhide HN8).keep (K9 _ (by omega) (by omega)))
        have HBX9 : Hid (Bx (fun k => k = gl) w w9) := (unhide HBX8).grown hg9 (fun k e hk => by cases e; omega)
        have HM9 := hide hm9
        obtain ⟨k0, -, -, -, -, -⟩ := sv_cells (unhide HO9)
        obtain ⟨z, hcg⟩ : ∃ z : Int, w9.cell? ⟨gl, j, none⟩ = some (.int .i64 z) := ⟨_, ((unhide HLO9).at (by omega)).2.1 j hlt⟩
        have hfg := ((unhide HLO9).at (by omega)).2.2 j
        obtain ⟨x0, x1, -, -⟩ := unhide HN9
        have x0 : w9.cell? ⟨wr.heap.size, 0, none⟩ = some (.int .i64 (q : Int)) := x0
        have x1 : w9.cell? ⟨wr.heap.size, 1, none⟩ = some (.int .i64 X) := x1
        have hgd : (Instr.lookup 121 (.map (some w.heap.size)) (.agg #[.int .i64 (q : Int), .int .i64 X]) false).run Try.prog w9.drew = .ok (.int .i64 (j : Int)) w9.drew := by
          have h9 := ((unhide HM9).keep (w' := w9.drew) rfl).get hlt (unhide HFT) (unhide HSF)
          rw [unhide HGR] at h9
          exact h9
        clear hm9 hg9 K9
        go_wp2
        go_big_region
        all_goals
          go_wp2
          go_roundw
          case rel =>
            refine ⟨j + 1, by go_num, hlt, ?_, ?_, ?_, ?_⟩
            · exact (Below.heap_setCell w9 ⟨gl, j, none⟩ _ _ hvg).trans (unhide HO9)
            · have h9 := (unhide HLO9).store j j
              exact (OwT.keep h9 rfl).congr fun u _ => by
                have := mixT_step (ls := ls) (sd := fun i => sd.getD i 0) (j := j) u
                rw [unhide HFS] at this
                exact this
            · exact (unhide HM9).keep (Below.heap_setCell w9 ⟨gl, j, none⟩ _ _ (by show w.heap.size ≠ gl; omega))
            · exact ((unhide HBX9).setCell (p := ⟨gl, j, none⟩) rfl _).drew
          case measure => simp [intOf]; omega
    · have hlt' : ¬ (j : Int) < (n : Int) := by omega
      have ej : j = n := by omega
      subst ej
      obtain ⟨c, hlen, hc1, hc2⟩ := hm.len 3
      obtain ⟨-, k1, -, -, -, -⟩ := sv_cells hO
      have HC2 := hide hc2
      have HC1 := hide hc1
      clear hO lo hm hbx
      go_wp2
      go_end0
      refine ⟨rfl, c, ?_, ?_, unhide HC1, fun e t ht => fsG_new (unhide HC2 e t ht), ?_⟩
      · have h9 := heap_setCell_same wr vb 1 _ _ (.int .i64 (c : Int)) (unhide HO)
        exact h9
      · exact ((unhide HLO).keep (Below.heap_setCell wr ⟨vb, 1, none⟩ _ _ (fun e => hvg e.symm))).congr fun u hu => by unfold mixT; rw [if_pos hu]; rfl
      · have h9 : Bx (fun k => k = vb ∨ k = gl) w wr := ⟨(unhide HBX).os, (unhide HBX).tape, (unhide HBX).output, (unhide HBX).size, fun k hk hx => (unhide HBX).block k hk (fun e => hx (.inr e))⟩
        exact h9.setCell (p := ⟨vb, 1, none⟩) (.inl rfl) _
end Go.Proofs.Ytknefgdcnacfoaa
