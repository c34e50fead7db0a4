/-
  The reference's Split, walked.
-/
import Derived.Test.YtnakadlhafggkaaQRefS
namespace Go.Proofs.Ytnakadlhafggkaa
open Go.RowKit Go.Maps

theorem own_empty {w : World} {B g : Nat} (hg : B ≤ g) (h : w.heap[g]? = some (.cells #[] 3)) : OwnL .i64 3 w B (.slice (some ⟨g, 0, none⟩) 0 0) [] :=
  ⟨rfl, .inr ⟨g, 0, #[], rfl, hg, h, Nat.le_refl _, Nat.zero_le _, rfl, rfl⟩⟩
theorem RdL.dr {q : IntKind} {w : World} {a : Option Addr} {l : List Int} (h : RdL q w a l) : RdL q w.drew a l := h
theorem OwnL.dr {q : IntKind} {t : TypeId} {w : World} {B : Nat} {v : Value} {l : List Int} (h : OwnL q t w B v l) : OwnL q t w.drew B v l := h
theorem cells2 {W : World} {g : Nat} {x y u v : Value} (h0 : W.cell? ⟨g, 0, none⟩ = some x) (h1 : W.cell? ⟨g, 1, none⟩ = some y) : ((W.setCell ⟨g, 0, none⟩ u).setCell ⟨g, 1, none⟩ v).cell? ⟨g, 0, none⟩ = some u ∧ ((W.setCell ⟨g, 0, none⟩ u).setCell ⟨g, 1, none⟩ v).cell? ⟨g, 1, none⟩ = some v := by
  refine ⟨?_, World.cell?_setCell_same _ _ _ (u := y) ?_⟩
  · rw [World.cell?_setCell_other (a := ⟨g, 1, none⟩) (b := ⟨g, 0, none⟩) (h := fun e => by cases e)]; exact World.cell?_setCell_same _ _ _ h0
  · rw [World.cell?_setCell_other (a := ⟨g, 0, none⟩) (b := ⟨g, 1, none⟩) (h := fun e => by cases e)]; exact h1
theorem heap_new2 (w : World) (o o2 : Obj) : ((w.alloc o).alloc o2).heap[w.heap.size + 1]? = some o2 := by
  have := heap_alloc_new (w.alloc o) o2
  rwa [World.size_alloc] at this
theorem heap_new1 (w : World) (o o2 : Obj) : ((w.alloc o).alloc o2).heap[w.heap.size]? = some o := (Below.heap_alloc _ _ _ (by simp)).trans (heap_alloc_new w o)

set_option maxRecDepth 100000 in
set_option maxHeartbeats 4000000 in
theorem rsplit_ok (a : Option Addr) (c : Nat) (C : List Int) (N : Nat) (a2 : Option Addr) (c2 : Nat) (l : List Int) (w : World) (I : PartI C N) (hC : C.length ≤ 65536) (hN : N ≤ 65536) (hl : l.length ≤ 1000000) (hr : RdL .i64 w a C) (hC0 : 1 ≤ C.length) (h2 : RdL .i64 w a2 l) (hx : okL C.length l = true) :
    Calls Try.prog 15 #[.agg #[.slice a C.length c, .int .i64 (N : Nat)], .slice a2 l.length c2] w fun e w' => ∃ v u, e = .returned (.tuple #[.agg #[v, .int .i64 ((N + mixN C l N : Nat) : Int)], u, .int .i64 0]) ∧ OwnL .i64 3 w' w.heap.size v (spC C l N N) ∧ OwnL .i64 3 w' w.heap.size u (spM C l N N) ∧ Below w.heap.size w w' := by
  obtain ⟨W0, hW0⟩ : ∃ W0, (w.alloc (.cells #[.slice a C.length c, .int .i64 (N : Nat)] 31)).alloc (.cells #[.slice none 0 0, .int .i64 0] 31) = W0 := ⟨_, rfl⟩
  have b0 : Below w.heap.size w W0 := by rw [← hW0]; exact bstep (ballo w _) (ballo _ _)
  have z0 : W0.heap.size = w.heap.size + 2 := by rw [← hW0]; simp
  have p0 : W0.cell? ⟨w.heap.size, 0, none⟩ = some (.slice a C.length c) := by rw [← hW0]; simp
  have p1 : W0.cell? ⟨w.heap.size, 1, none⟩ = some (.int .i64 (N : Nat)) := by rw [← hW0]; simp
  have q0 : W0.cell? ⟨w.heap.size + 1, 0, none⟩ = some (.slice none 0 0) := by rw [← hW0]; simp
  have q1 : W0.cell? ⟨w.heap.size + 1, 1, none⟩ = some (.int .i64 0) := by rw [← hW0]; simp
  have g0 : W0.frozen? ⟨w.heap.size + 1, 0, none⟩ = false := by rw [← hW0]; simp
  have g1 : W0.frozen? ⟨w.heap.size + 1, 1, none⟩ = false := by rw [← hW0]; simp
  have hok := okL_iff.1 hx
  have HOK := hide hok
  have HI := hide I
  have HZ0 := hide z0
  clear I hx hok z0
  go_enter Try.func15, Try.ntmps15
  go_wp2
  clear hW0
  go_loopw [7] (fun i wx => ∃ j m : Nat, j ≤ l.length ∧ i = .int .i64 j ∧ wx = W0.drewN m) (fun i _ => l.length - (intOf i).toNat)
  case atStart => exact ⟨0, 0, Nat.zero_le _, rfl, rfl⟩
  case round =>
    obtain ⟨j, m, hj, rfl, rfl⟩ := hrel
    by_cases hlt : j < l.length
    · obtain ⟨b, off, rfl, hc⟩ := (h2.below b0).at hlt
      have hcj := hc j hlt
      have hxr := unhide HOK (l.getD j 0) (gd_mem hlt)
      clear hc
      generalize l.getD j 0 = x at *
      have hx0 : decide (x < 0) = false := decide_eq_false (by omega)
      have hx1 := hxr.2
      go_wp2
      go_quiet (fail)
      go_wp2
      go_roundw
      case rel => exact ⟨j + 1, _, by omega, by go_num, rfl⟩
      case measure => simp [intOf]; omega
    · obtain rfl : j = l.length := by omega
      have e1 : Below w.heap.size w (W0.drewN m) := below_drewN b0 m
      have z1 : (W0.drewN m).heap.size = w.heap.size + 2 := unhide HZ0
      have p0' : (W0.drewN m).cell? ⟨w.heap.size, 0, none⟩ = some (.slice a C.length c) := p0
      have p1' : (W0.drewN m).cell? ⟨w.heap.size, 1, none⟩ = some (.int .i64 (N : Nat)) := p1
      have q0' : (W0.drewN m).cell? ⟨w.heap.size + 1, 0, none⟩ = some (.slice none 0 0) := q0
      have q1' : (W0.drewN m).cell? ⟨w.heap.size + 1, 1, none⟩ = some (.int .i64 0) := q1
      have g0' : (W0.drewN m).frozen? ⟨w.heap.size + 1, 0, none⟩ = false := g0
      have g1' : (W0.drewN m).frozen? ⟨w.heap.size + 1, 1, none⟩ = false := g1
      clear b0 p0 p1 q0 q1 g0 g1 HZ0
      generalize W0.drewN m = W1 at *
      have HZ1 := hide z1
      clear z1
      have hw1 := e1.size
      obtain ⟨ab, ao, rfl, -⟩ := hr.at (i := 0) (by omega)
      have HR := hide (hr.below e1)
      have k0 : w.heap.size < W1.heap.size := World.block_lt_of_cell? W1 _ p0'
      go_wp2
      go_cut [8] from 37 to 43 (fun v wx => ∃ b u, v = .pointer (some ⟨b, 0, none⟩) ∧ RS W1 wx b u C N)
      case first =>
        go_region_law (first
          | (refine step_pushA eInt rfl (.tmp 37) (.tmp 39) rfl W1.heap.size (.slice (some ⟨W1.heap.size, 0, none⟩) 0 0) [] (by rfl) (own_empty (by omega) (heap_alloc_new W1 _)).dr ⟨ab, ao, none⟩ c C (by rfl) ((unhide HR).below (ballo W1 _)).dr (by simp; omega) (by simp <;> omega) ?_; intro v2 w2 ho2 hb2 hg2 hat2; rw [List.nil_append] at ho2; obtain ⟨a3, c3, rfl, -, -, -, -, -⟩ := ho2.shape; have B2 : Below W1.heap.size W1 w2 := (Below.drew (ballo W1 _)).trans hb2; have p1'' : w2.cell? ⟨w.heap.size, 1, none⟩ = some (.int .i64 (N : Nat)) := (B2.cell (by exact k0)).trans p1'; have p1a : ∀ o, (w2.alloc o).cell? ⟨w.heap.size, 1, none⟩ = some (.int .i64 (N : Nat)) := (fun o => (World.cell?_of_block (a := ⟨w.heap.size, 1, none⟩) (Below.heap_alloc w2 o _ (Nat.lt_of_lt_of_le k0 B2.size))).trans p1''))
          | (refine step_pushA eInt rfl (.tmp 37) (.tmp 39) rfl W1.heap.size (.slice (some ⟨W1.heap.size, 0, none⟩) 0 0) [] (by rfl) (own_empty (by omega) (heap_new1 W1 _ _)).dr ⟨ab, ao, none⟩ c C (by rfl) ((unhide HR).below (bstep (ballo W1 _) (ballo _ _))).dr (by simp; omega) (by simp <;> omega) ?_; intro v2 w2 ho2 hb2 hg2 hat2; rw [List.nil_append] at ho2; obtain ⟨a3, c3, rfl, -, -, -, -, -⟩ := ho2.shape; have B2 : Below W1.heap.size W1 w2 := (Below.drew (bstep (ballo W1 _) (ballo _ _))).trans hb2; have p1'' : w2.cell? ⟨w.heap.size, 1, none⟩ = some (.int .i64 (N : Nat)) := (B2.cell (by exact k0)).trans p1'; have p1a : ∀ o, (w2.alloc o).cell? ⟨w.heap.size, 1, none⟩ = some (.int .i64 (N : Nat)) := (fun o => (World.cell?_of_block (a := ⟨w.heap.size, 1, none⟩) (Below.heap_alloc w2 o _ (Nat.lt_of_lt_of_le k0 B2.size))).trans p1''); have hsb : w2.heap[W1.heap.size + 1]? = some (.cells #[.slice none 0 0, .int .i64 0] 31) := (hg2.block (W1.heap.size + 1) (by show _ < Array.size _; exact (Array.getElem?_eq_some_iff.1 (heap_new2 W1 _ _)).1) (fun e => by have e2 : some (W1.heap.size + 1) = some W1.heap.size := e; have e3 := Option.some.inj e2; omega)).trans (heap_new2 W1 _ _); have s0 : w2.cell? ⟨W1.heap.size + 1, 0, none⟩ = some (.slice none 0 0) := (by unfold World.cell?; rw [hsb]; rfl); have s1 : w2.cell? ⟨W1.heap.size + 1, 1, none⟩ = some (.int .i64 0) := (by unfold World.cell?; rw [hsb]; rfl); have t0 : w2.frozen? ⟨W1.heap.size + 1, 0, none⟩ = false := (by unfold World.frozen?; rw [hsb]; rfl); have t1 : w2.frozen? ⟨W1.heap.size + 1, 1, none⟩ = false := (by unfold World.frozen?; rw [hsb]; rfl); have hne : (Value.slice a3 C.length c3).ownBlock ≠ some (W1.heap.size + 1) := (fun e => by rcases hat2 _ e with d | d; { have d2 : some W1.heap.size = some (W1.heap.size + 1) := d; have d3 := Option.some.inj d2; omega }; { have d2 : W1.heap.size + 1 = ((W1.alloc (.cells #[] 3)).alloc (.cells #[.slice none 0 0, .int .i64 0] 31)).heap.size := d; rw [World.size_alloc, World.size_alloc] at d2; omega }))
          | (refine step_pushA eInt rfl (.tmp 37) (.tmp 39) rfl W1.heap.size (.slice (some ⟨W1.heap.size + 1, 0, none⟩) 0 0) [] (by rfl) (own_empty (by omega) (heap_new2 W1 _ _)).dr ⟨ab, ao, none⟩ c C (by rfl) ((unhide HR).below (bstep (ballo W1 _) (ballo _ _))).dr (by simp; omega) (by simp <;> omega) ?_; intro v2 w2 ho2 hb2 hg2 hat2; rw [List.nil_append] at ho2; obtain ⟨a3, c3, rfl, -, -, -, -, -⟩ := ho2.shape; have B2 : Below W1.heap.size W1 w2 := (Below.drew (bstep (ballo W1 _) (ballo _ _))).trans hb2; have p1'' : w2.cell? ⟨w.heap.size, 1, none⟩ = some (.int .i64 (N : Nat)) := (B2.cell (by exact k0)).trans p1'; have p1a : ∀ o, (w2.alloc o).cell? ⟨w.heap.size, 1, none⟩ = some (.int .i64 (N : Nat)) := (fun o => (World.cell?_of_block (a := ⟨w.heap.size, 1, none⟩) (Below.heap_alloc w2 o _ (Nat.lt_of_lt_of_le k0 B2.size))).trans p1''); have hsb : w2.heap[W1.heap.size]? = some (.cells #[.slice none 0 0, .int .i64 0] 31) := (hg2.block (W1.heap.size) (by show _ < Array.size _; exact (Array.getElem?_eq_some_iff.1 (heap_new1 W1 _ _)).1) (fun e => by have e2 : some W1.heap.size = some (W1.heap.size + 1) := e; have e3 := Option.some.inj e2; omega)).trans (heap_new1 W1 _ _); have s0 : w2.cell? ⟨W1.heap.size, 0, none⟩ = some (.slice none 0 0) := (by unfold World.cell?; rw [hsb]; rfl); have s1 : w2.cell? ⟨W1.heap.size, 1, none⟩ = some (.int .i64 0) := (by unfold World.cell?; rw [hsb]; rfl); have t0 : w2.frozen? ⟨W1.heap.size, 0, none⟩ = false := (by unfold World.frozen?; rw [hsb]; rfl); have t1 : w2.frozen? ⟨W1.heap.size, 1, none⟩ = false := (by unfold World.frozen?; rw [hsb]; rfl); have hne : (Value.slice a3 C.length c3).ownBlock ≠ some W1.heap.size := (fun e => by rcases hat2 _ e with d | d; { have d2 : some (W1.heap.size + 1) = some W1.heap.size := d; have d3 := Option.some.inj d2; omega }; { have d2 : W1.heap.size = ((W1.alloc (.cells #[.slice none 0 0, .int .i64 0] 31)).alloc (.cells #[] 3)).heap.size := d; rw [World.size_alloc, World.size_alloc] at d2; omega })))
        all_goals (go_wp2; go_meet)
        all_goals first
          | exact ⟨_, _, rfl, RS.mkA ho2 B2⟩
          | exact ⟨_, _, rfl, RS.mkB ho2 B2 s0 s1 t1 hne (by omega)⟩
      case rest =>
        obtain ⟨b, v0, rfl, hrs⟩ := hcut
        have R0 : RI W1 wc b v0 (.slice none 0 0) (spC C l N 0) (spM C l N 0) (N + mixN C l 0) := by
          rw [spC_zero (fun i hi => ((unhide HI).rng i hi).1)]
          exact ⟨hrs, OwnL.nil _ _ _ _, (by intro e; cases e), (by intro i e; cases e)⟩
        have HR0 := hide R0
        have HR2 := hide (h2.below e1)
        have hr0 := hr
        clear hrs R0 hr h2 HR HOK
        go_wp2
        go_loopw [9, 10] (fun u i wx => ∃ (k : Nat) (v : Value), k ≤ N ∧ i = .int .i64 k ∧ RI W1 wx b v u (spC C l N k) (spM C l N k) (N + mixN C l k)) (fun _ i _ => N - (intOf i).toNat)
        case atStart => exact ⟨0, v0, Nat.zero_le _, rfl, unhide HR0⟩
        case round =>
          obtain ⟨k, v, hk, rfl, hri⟩ := hrel
          clear HR0
          have hbl := hri.rs.bl
          have P0 : wr.cell? ⟨w.heap.size, 0, none⟩ = some (.slice (some ⟨ab, ao, none⟩) C.length c) := (hbl.cell (by exact k0)).trans p0'
          have P1 : wr.cell? ⟨w.heap.size, 1, none⟩ = some (.int .i64 (N : Nat)) := (hbl.cell (by exact k0)).trans p1'
          by_cases hlt : k < N
          · obtain ⟨au, cu, rfl, -, -, -, -, -⟩ := hri.made.shape
            have HRI := hide hri
            clear hri
            have HRC := hide ((hr0.below e1).below hbl)
            go_wp2
            go_loop [11, 12, 13] (fun x y i => ∃ j : Nat, j ≤ C.length ∧ i = .int .i64 j ∧ x = .bool (inTo C l (k : Int) j) ∧ y = .bool (ouTo C l (k : Int) j)) (fun _ _ i => C.length - (intOf i).toNat)
            case atStart => exact ⟨0, Nat.zero_le _, rfl, rfl, rfl⟩
            case round =>
              obtain ⟨j, hj, rfl, rfl, rfl⟩ := hrel
              by_cases hjl : j < C.length
              · have HIN := hide (inTo_next C l (k : Int) j)
                have HOU := hide (ouTo_next C l (k : Int) j)
                obtain ⟨cb, co, ec, hc⟩ := (unhide HRC).at hjl
                cases ec
                have hcj := hc j hjl
                clear hc
                have HAS := hide (rhas_any a2 c2 l ((j : Nat) : Int) wr ((unhide HR2).below hbl) hl)
                generalize hz : C.getD j 0 = z at *
                generalize hi : inTo C l (k : Int) j = bi at *
                generalize ho : ouTo C l (k : Int) j = bo at *
                clear hz hi ho
                by_cases ez : z = (k : Int)
                · have tz : (z == (k : Int)) = true := beq_iff_eq.2 ez
                  rw [tz] at HIN HOU
                  clear ez
                  cases hm : decide (((j : Nat) : Int) ∈ l)
                  · have HM : Hid (inB l j = false) := hm
                    rw [hm] at HAS
                    clear hm
                    go_wp2_with fail
                    refine (unhide HAS).mono ?_
                    rintro e w' ⟨rfl, hw'⟩
                    subst w'
                    go_wp2
                    go_round
                    case rel => exact ⟨j + 1, by omega, by go_num, by rw [unhide HIN, unhide HM]; simp, by rw [unhide HOU, unhide HM]; simp⟩
                    case measure => simp [intOf]; omega
                  · have HM : Hid (inB l j = true) := hm
                    rw [hm] at HAS
                    clear hm
                    go_wp2_with fail
                    refine (unhide HAS).mono ?_
                    rintro e w' ⟨rfl, hw'⟩
                    subst w'
                    go_wp2
                    go_round
                    case rel => exact ⟨j + 1, by omega, by go_num, by rw [unhide HIN, unhide HM]; simp, by rw [unhide HOU, unhide HM]; simp⟩
                    case measure => simp [intOf]; omega
                · have tz : (z == (k : Int)) = false := beq_eq_false_iff_ne.2 ez
                  rw [tz] at HIN HOU
                  clear ez
                  go_wp2
                  go_round
                  case rel => exact ⟨j + 1, by omega, by go_num, by rw [unhide HIN]; simp, by rw [unhide HOU]; simp⟩
                  case measure => simp [intOf]; omega
              · obtain rfl : j = C.length := by omega
                have HMX := hide (mix_to C l (k : Int))
                cases hi : inTo C l (k : Int) C.length
                · rw [hi] at HMX
                  have HMF : Hid (mixB C l (k : Int) = false) := by rw [unhide HMX]; rfl
                  clear hi HMX
                  go_wp2
                  go_roundw
                  case rel =>
                    refine ⟨k + 1, v, by omega, by go_num, ?_⟩
                    have h := unhide HRI
                    rw [spC_no (unhide HMF), spM_no (unhide HMF), mixN_no (unhide HMF)]
                    exact h
                  case measure => simp [intOf]; omega
                · cases ho : ouTo C l (k : Int) C.length
                  · rw [hi, ho] at HMX
                    have HMF : Hid (mixB C l (k : Int) = false) := by rw [unhide HMX]; rfl
                    clear hi ho HMX
                    go_wp2
                    go_roundw
                    case rel =>
                      refine ⟨k + 1, v, by omega, by go_num, ?_⟩
                      have h := unhide HRI
                      rw [spC_no (unhide HMF), spM_no (unhide HMF), mixN_no (unhide HMF)]
                      exact h
                    case measure => simp [intOf]; omega
                  · rw [hi, ho] at HMX
                    have HMT : Hid (mixB C l (k : Int) = true) := by rw [unhide HMX]; rfl
                    clear hi ho HMX
                    have R4 : RI W1 wr b v (.slice au (spM C l N k).length cu) (spP C l N k 0) (spM C l N k) (N + mixN C l k) := by rw [spP_zero]; exact unhide HRI
                    have HR4 := hide R4
                    have hmx := mixN_le C l k
                    clear R4 HRI
                    go_wp2
                    go_loopw [14] (fun i wx => ∃ j : Nat, j ≤ C.length ∧ i = .int .i64 j ∧ RI W1 wx b v (.slice au (spM C l N k).length cu) (spP C l N k j) (spM C l N k) (N + mixN C l k)) (fun i _ => C.length - (intOf i).toNat)
                    case atStart => exact ⟨0, Nat.zero_le _, rfl, unhide HR4⟩
                    case round =>
                      obtain ⟨j, hj, rfl, hri⟩ := hrel
                      clear HR4
                      have hbl := hri.rs.bl
                      have P0 : wr.cell? ⟨w.heap.size, 0, none⟩ = some (.slice (some ⟨ab, ao, none⟩) C.length c) := (hbl.cell (by exact k0)).trans p0'
                      have d0 := hri.rs.c0
                      have d1 := hri.rs.c1
                      have f1 := hri.rs.f1
                      have HRI := hide hri
                      by_cases hjl : j < C.length
                      · obtain ⟨cb, co, ec, hc⟩ := ((hr0.below e1).below hbl).at hjl
                        cases ec
                        have hcj := hc j hjl
                        clear hc
                        have HAS := hide (rhas_any a2 c2 l ((j : Nat) : Int) wr ((unhide HR2).below hbl) hl)
                        have HTY := hide (spTo_yes (N := N) (i := j) (unhide HMT))
                        obtain ⟨g, cap, rfl, hlc, hcm, hB, hgl, hcell, hfz⟩ := hri.rs.own.pos (by rw [spP_len]; omega)
                        have hvj := hcell j (by rw [spP_len]; exact hjl)
                        have hfj := hfz j
                        rw [spP_len] at d0
                        clear hri hcell hfz hlc hcm hB hgl
                        generalize hz : C.getD j 0 = z at *
                        have HZZ := hide hz
                        clear hz
                        by_cases ez : z = (k : Int)
                        · have tz : (z == (k : Int)) = true := beq_iff_eq.2 ez
                          have HEZ := hide ez
                          clear ez
                          cases hm : decide (((j : Nat) : Int) ∈ l)
                          · have HM : Hid (inB l j = false) := hm
                            rw [hm] at HAS
                            have HSM := hide (spP_same hjl (show spTo C l N (k + 1) j = spTo C l N k j by rw [unhide HTY, if_neg (fun x => by rw [unhide HM] at x; cases x.2)]))
                            clear hm
                            go_wp2_with fail
                            refine (unhide HAS).mono ?_
                            rintro e w' ⟨rfl, hw'⟩
                            subst w'
                            go_wp2
                            go_roundw
                            case rel => exact ⟨j + 1, by omega, by go_num, by rw [unhide HSM]; exact unhide HRI⟩
                            case measure => simp [intOf]; omega
                          · have HM : Hid (inB l j = true) := hm
                            rw [hm] at HAS
                            have HNX : Hid (spP C l N k (j + 1) = (spP C l N k j).set j ((N + mixN C l k : Nat) : Int)) := by
                              show _ = _
                              rw [spP_next hjl, unhide HTY, if_pos ⟨unhide HEZ, unhide HM⟩]
                            clear hm
                            have hjl' : (j : Int) < ((spP C l N k j).length : Int) := by rw [spP_len]; omega
                            go_wp2_with fail
                            refine (unhide HAS).mono ?_
                            rintro e w' ⟨rfl, hw'⟩
                            subst w'
                            go_wp2
                            go_roundw
                            case rel =>
                              refine ⟨j + 1, by omega, by go_num, ?_⟩
                              have h := (unhide HRI).store j ((N + mixN C l k : Nat) : Int)
                              rw [← unhide HNX, spP_len] at h
                              rw [show ((N : Nat) : Int) + ((mixN C l k : Nat) : Int) = ((N + mixN C l k : Nat) : Int) by omega]
                              first | exact h | (rw [spP_len]; exact h)
                            case measure => simp [intOf]; omega
                        · have tz : (z == (k : Int)) = false := beq_eq_false_iff_ne.2 ez
                          have HSM := hide (spP_same hjl (show spTo C l N (k + 1) j = spTo C l N k j by rw [unhide HTY, if_neg (fun x => ez x.1)]))
                          clear ez
                          go_wp2
                          go_roundw
                          case rel => exact ⟨j + 1, by omega, by go_num, by rw [unhide HSM]; exact unhide HRI⟩
                          case measure => simp [intOf]; omega
                      · obtain rfl : j = C.length := by omega
                        have hml := spM_len C l N k
                        have O1 : OwnL .i64 3 (wr.alloc (.cells #[.int .i64 (((N : Nat) : Int) + ((mixN C l k : Nat) : Int))] 3)) W1.heap.size (.slice au (spM C l N k).length cu) (spM C l N k) := hri.made.alloc _
                        have R1 := RdL.one (q := .i64) (t := 3) wr (((N : Nat) : Int) + ((mixN C l k : Nat) : Int))
                        have HO1 := hide O1
                        have HR1 := hide R1
                        have hbg : ((spM C l N k).length + [((N : Nat) : Int) + ((mixN C l k : Nat) : Int)].length) * 8 ≤ 140737488355328 := by rw [hml]; simp; omega
                        have HBG := hide hbg
                        have hz := hbl.size
                        have HBS : Hid (W1.heap.size ≤ (wr.alloc (.cells #[.int .i64 (((N : Nat) : Int) + ((mixN C l k : Nat) : Int))] 3)).heap.size) := by show _ ≤ _; simp; omega
                        have hbk := World.block_lt_of_cell? wr _ d0
                        have hub := hri.ub
                        clear hri O1 R1 hbg hml
                        go_wp2_with (at_builtin; refine wpl_pushA eInt rfl (.tmp 98) (.tmp 101) rfl W1.heap.size _ (spM C l N k) rfl (unhide HO1) ⟨wr.heap.size, 0, none⟩ 1 [((N : Nat) : Int) + ((mixN C l k : Nat) : Int)] rfl (unhide HR1) (unhide HBG) (unhide HBS) ?_; intro v4 w4 ho4 hb4 hg4 hat4; have R5 := (unhide HRI).push ho4 hb4 hg4 hat4; have d1' := R5.rs.c1; have f1' := R5.rs.f1; obtain ⟨a4, c4, rfl, -, -, -, -, -⟩ := ho4.shape; have HR5 := hide R5; clear R5 ho4 hb4 hg4 hat4)
                        go_roundw
                        case rel =>
                          refine ⟨k + 1, v, by omega, by go_num, ?_⟩
                          have h := (unhide HR5).inc
                          rw [spP_all] at h
                          rw [spM_yes (unhide HMT), mixN_yes (unhide HMT)]
                          have e2 : ((N + mixN C l k : Nat) : Int) = ((N : Nat) : Int) + ((mixN C l k : Nat) : Int) := by omega
                          rw [e2, show (spM C l N k ++ [((N : Nat) : Int) + ((mixN C l k : Nat) : Int)]).length = (spM C l N k).length + 1 by simp] at h
                          rw [e2]
                          exact h
                        case measure => simp [intOf]; omega
          · obtain rfl : k = N := by omega
            have hk1 : w.heap.size + 1 < W1.heap.size := World.block_lt_of_cell? W1 _ q0'
            have Q0 : wr.cell? ⟨w.heap.size + 1, 0, none⟩ = some (.slice none 0 0) := (hbl.cell (by exact hk1)).trans q0'
            have Q1 : wr.cell? ⟨w.heap.size + 1, 1, none⟩ = some (.int .i64 0) := (hbl.cell (by exact hk1)).trans q1'
            have G0 : wr.frozen? ⟨w.heap.size + 1, 0, none⟩ = false := (hbl.frozen (by exact hk1)).trans g0'
            have G1 : wr.frozen? ⟨w.heap.size + 1, 1, none⟩ = false := (hbl.frozen (by exact hk1)).trans g1'
            have d0 := hri.rs.c0
            have d1 := hri.rs.c1
            obtain ⟨av, cv, rfl, -, -, -, -, -⟩ := hri.rs.own.shape
            obtain ⟨au, cu, rfl, -, -, -, -, -⟩ := hri.made.shape
            have HRI := hide hri
            clear hri hbl p0' p1' q0' q1' g0' g1'
            go_wp2
            have hd : ((k : Nat) : Int) + ((mixN C l k : Nat) : Int) = ((k + mixN C l k : Nat) : Int) := by omega
            rw [hd]
            have K2 : ∀ i, i ≠ w.heap.size + 1 → ((wr.setCell ⟨w.heap.size + 1, 0, none⟩ (.slice av (spC C l k k).length cv)).setCell ⟨w.heap.size + 1, 1, none⟩ (.int .i64 ((k + mixN C l k : Nat) : Int))).heap[i]? = wr.heap[i]? := fun i hi => by
              rw [Below.heap_setCell _ _ _ _ (by simpa using hi), Below.heap_setCell _ _ _ _ (by simpa using hi)]
            have x0 : ((wr.setCell ⟨w.heap.size + 1, 0, none⟩ (.slice av (spC C l k k).length cv)).setCell ⟨w.heap.size + 1, 1, none⟩ (.int .i64 ((k + mixN C l k : Nat) : Int))).cell? ⟨w.heap.size + 1, 0, none⟩ = some (.slice av (spC C l k k).length cv) := by
              rw [World.cell?_setCell_other (a := ⟨w.heap.size + 1, 1, none⟩) (b := ⟨w.heap.size + 1, 0, none⟩) (h := fun e => by cases e)]; exact World.cell?_setCell_same _ _ _ Q0
            have x1 : ((wr.setCell ⟨w.heap.size + 1, 0, none⟩ (.slice av (spC C l k k).length cv)).setCell ⟨w.heap.size + 1, 1, none⟩ (.int .i64 ((k + mixN C l k : Nat) : Int))).cell? ⟨w.heap.size + 1, 1, none⟩ = some (.int .i64 ((k + mixN C l k : Nat) : Int)) := by
              refine World.cell?_setCell_same _ _ _ (u := .int .i64 0) ?_
              rw [World.cell?_setCell_other (a := ⟨w.heap.size + 1, 0, none⟩) (b := ⟨w.heap.size + 1, 1, none⟩) (h := fun e => by cases e)]; exact Q1
            have hr1 := unhide HRI
            have hz1 := unhide HZ1
            have own1 := (hr1.rs.own.keep fun i e => K2 i (fun e2 => by have := (hr1.rs.own.lt e).1; omega)).mono (B' := w.heap.size) (by omega)
            have own2 := (hr1.made.keep fun i e => K2 i (fun e2 => by have := (hr1.made.lt e).1; omega)).mono (B' := w.heap.size) (by omega)
            have bl2 : Below w.heap.size w ((wr.setCell ⟨w.heap.size + 1, 0, none⟩ (.slice av (spC C l k k).length cv)).setCell ⟨w.heap.size + 1, 1, none⟩ (.int .i64 ((k + mixN C l k : Nat) : Int))) := ((e1.trans (hr1.rs.bl.mono hw1)).setCell (p := ⟨w.heap.size + 1, 0, none⟩) (by simp) _).setCell (p := ⟨w.heap.size + 1, 1, none⟩) (by simp) _
            refine bodyPost_ret (v := .tuple #[.agg #[.slice av (spC C l k k).length cv, .int .i64 ((k + mixN C l k : Nat) : Int)], .slice au (spM C l k k).length cu, .int .i64 0]) ?_ rfl ⟨_, _, rfl, own1, own2, bl2⟩
            generalize (wr.setCell ⟨w.heap.size + 1, 0, none⟩ (.slice av (spC C l k k).length cv)).setCell ⟨w.heap.size + 1, 1, none⟩ (.int .i64 ((k + mixN C l k : Nat) : Int)) = W9 at *
            simp [results, Try.results15, go_sem, x0, x1]

set_option maxRecDepth 100000 in
set_option maxHeartbeats 2000000 in
theorem rsplit_bad (a : Option Addr) (c : Nat) (C : List Int) (N : Nat) (a2 : Option Addr) (c2 : Nat) (l : List Int) (w : World) (hl : l.length ≤ 1000000) (h2 : RdL .i64 w a2 l) (hx : okL C.length l = false) :
    Calls Try.prog 15 #[.agg #[.slice a C.length c, .int .i64 (N : Nat)], .slice a2 l.length c2] w fun e w' => e = .returned (.tuple #[.agg #[.slice a C.length c, .int .i64 (N : Nat)], .slice none 0 0, .int .i64 1]) ∧ Below w.heap.size w w' := by
  obtain ⟨W0, hW0⟩ : ∃ W0, (w.alloc (.cells #[.slice a C.length c, .int .i64 (N : Nat)] 31)).alloc (.cells #[.slice none 0 0, .int .i64 0] 31) = W0 := ⟨_, rfl⟩
  have b0 : Below w.heap.size w W0 := by rw [← hW0]; exact bstep (ballo w _) (ballo _ _)
  have p0 : W0.cell? ⟨w.heap.size, 0, none⟩ = some (.slice a C.length c) := by rw [← hW0]; simp
  have p1 : W0.cell? ⟨w.heap.size, 1, none⟩ = some (.int .i64 (N : Nat)) := by rw [← hW0]; simp
  have q0 : W0.cell? ⟨w.heap.size + 1, 0, none⟩ = some (.slice none 0 0) := by rw [← hW0]; simp
  have q1 : W0.cell? ⟨w.heap.size + 1, 1, none⟩ = some (.int .i64 0) := by rw [← hW0]; simp
  have g0 : W0.frozen? ⟨w.heap.size + 1, 0, none⟩ = false := by rw [← hW0]; simp
  have g1 : W0.frozen? ⟨w.heap.size + 1, 1, none⟩ = false := by rw [← hW0]; simp
  have HX := hide hx
  clear hx
  go_enter Try.func15, Try.ntmps15
  go_wp2
  clear hW0
  go_loopw [7] (fun i wx => ∃ j m : Nat, j ≤ l.length ∧ i = .int .i64 j ∧ wx = W0.drewN m ∧ ∀ i, i < j → 0 ≤ l.getD i 0 ∧ l.getD i 0 < (C.length : Int)) (fun i _ => l.length - (intOf i).toNat)
  case atStart => exact ⟨0, 0, Nat.zero_le _, rfl, rfl, fun i hi => by omega⟩
  case round =>
    obtain ⟨j, m, hj, rfl, rfl, hg⟩ := hrel
    have HG := hide hg
    clear hg
    by_cases hlt : j < l.length
    · obtain ⟨b, off, rfl, hc⟩ := (h2.below b0).at hlt
      have hcj := hc j hlt
      clear hc
      generalize hxx : l.getD j 0 = x at *
      have HXX := hide hxx
      clear hxx
      by_cases hx0 : x < 0
      · have hx0' : decide (x < 0) = true := decide_eq_true hx0
        go_wp2
        go_quiet (fail)
        go_wp2
        generalize hq : W0.drewN _ = Wq
        obtain ⟨x0, x1⟩ := cells2 (W := Wq) (g := w.heap.size + 1) (u := .slice a C.length c) (v := .int .i64 (N : Nat)) (by rw [← hq]; exact q0) (by rw [← hq]; exact q1)
        have bl : Below w.heap.size w ((Wq.setCell ⟨w.heap.size + 1, 0, none⟩ (.slice a C.length c)).setCell ⟨w.heap.size + 1, 1, none⟩ (.int .i64 (N : Nat))) := (Below.setCell (p := ⟨w.heap.size + 1, 0, none⟩) (by rw [← hq]; exact below_drewN b0 _) (by simp) _).setCell (p := ⟨w.heap.size + 1, 1, none⟩) (by simp) _
        refine bodyPost_ret (v := .tuple #[.agg #[.slice a C.length c, .int .i64 (N : Nat)], .slice none 0 0, .int .i64 1]) ?_ rfl ⟨rfl, bl⟩
        generalize (Wq.setCell ⟨w.heap.size + 1, 0, none⟩ (.slice a C.length c)).setCell ⟨w.heap.size + 1, 1, none⟩ (.int .i64 (N : Nat)) = W9 at *
        simp [results, Try.results15, go_sem, x0, x1]
      · have hx0' : decide (x < 0) = false := decide_eq_false hx0
        by_cases hx1 : x < (C.length : Int)
        · have HOK := hide (show 0 ≤ x ∧ x < (C.length : Int) by omega)
          go_wp2
          go_quiet (fail)
          go_wp2
          go_roundw
          case rel => exact ⟨j + 1, _, by omega, by go_num, rfl, fun i hi => by by_cases e : i = j; { subst e; rw [unhide HXX]; exact unhide HOK }; exact unhide HG i (by omega)⟩
          case measure => simp [intOf]; omega
        · go_wp2
          go_quiet (fail)
          go_wp2
          generalize hq : W0.drewN _ = Wq
          obtain ⟨x0, x1⟩ := cells2 (W := Wq) (g := w.heap.size + 1) (u := .slice a C.length c) (v := .int .i64 (N : Nat)) (by rw [← hq]; exact q0) (by rw [← hq]; exact q1)
          have bl : Below w.heap.size w ((Wq.setCell ⟨w.heap.size + 1, 0, none⟩ (.slice a C.length c)).setCell ⟨w.heap.size + 1, 1, none⟩ (.int .i64 (N : Nat))) := (Below.setCell (p := ⟨w.heap.size + 1, 0, none⟩) (by rw [← hq]; exact below_drewN b0 _) (by simp) _).setCell (p := ⟨w.heap.size + 1, 1, none⟩) (by simp) _
          refine bodyPost_ret (v := .tuple #[.agg #[.slice a C.length c, .int .i64 (N : Nat)], .slice none 0 0, .int .i64 1]) ?_ rfl ⟨rfl, bl⟩
          generalize (Wq.setCell ⟨w.heap.size + 1, 0, none⟩ (.slice a C.length c)).setCell ⟨w.heap.size + 1, 1, none⟩ (.int .i64 (N : Nat)) = W9 at *
          simp [results, Try.results15, go_sem, x0, x1]
    · exfalso
      have h1 : okL C.length l = true := okL_iff.2 fun x hx => by
        obtain ⟨i, hi, rfl⟩ := mem_gd hx
        exact unhide HG i (by omega)
      rw [unhide HX] at h1
      cases h1
end Go.Proofs.Ytnakadlhafggkaa
