/-
  What the program's accessWords returns: each word in memory of its own.
-/
import Derived.Test.YtdlcbjbcehpooaaTSearch
import Derived.Test.YtdlcbjbcehpooaaRFam
namespace Go.Proofs.Ytdlcbjbcehpooaa
open Go.RowKit Go.Maps

def nsV (V : List (List Int)) (i : Nat) : Nat := (V.getD i []).length
def fsV (V : List (List Int)) (i j : Nat) : Int := (V.getD i []).getD j 0
theorem own_of_list {w : World} {B : Nat} {v : Value} {l : List Int} (h : OwnL .i64 3 w B v l) : Own w B v l.length (fun i => l.getD i 0) := by
  have e : l.map (Value.int .i64) = cellsOf l.length (fun i => l.getD i 0) := by
    refine List.ext_getElem? fun i => ?_
    by_cases hi : i < l.length
    · rw [map_getD hi, cellsOf_get hi]
    · rw [List.getElem?_eq_none (by rw [List.length_map]; omega), List.getElem?_eq_none (by rw [length_cellsOf]; omega)]
  unfold Own; rw [← e]; exact h
theorem list_of_own {w : World} {B : Nat} {v : Value} {l : List Int} (h : Own w B v l.length (fun i => l.getD i 0)) : OwnL .i64 3 w B v l := by
  have e : l.map (Value.int .i64) = cellsOf l.length (fun i => l.getD i 0) := by
    refine List.ext_getElem? fun i => ?_
    by_cases hi : i < l.length
    · rw [map_getD hi, cellsOf_get hi]
    · rw [List.getElem?_eq_none (by rw [List.length_map]; omega), List.getElem?_eq_none (by rw [length_cellsOf]; omega)]
  unfold OwnL; rw [e]; exact h

theorem NMap.look {w : World} {g : Nat} {S : List Int} {r : Int} (h : NMap w g S) (hr : r ∈ S) (r0 : -1099511627776 ≤ r) (r1 : r ≤ 1099511627776) :
    (Instr.lookup 56 (.map (some g)) (.int .i64 r) false).run Try.prog w = .ok (.int .i64 (S.idxOf r : Nat)) w := by
  obtain ⟨n, D, ho, _, hsay⟩ := h
  obtain ⟨c, hrun, hat, _⟩ := ho.lookup_int keyed64 Try.underlying56 Try.underlying3 (zeroInt _) (key64 r0 r1)
  rw [(hsay r).2 hr] at hat
  cases hat
  exact hrun
theorem NMap.draws {w : World} {g : Nat} {S : List Int} (h : NMap w g S) (q : Nat) : NMap (w.drewN q) g S := h.keep rfl

theorem idx_at {S : List Int} (hd : S.Nodup) {j : Nat} (hj : j < S.length) : S.idxOf (S.getD j 0) = j := by
  obtain ⟨x, hx⟩ : ∃ x, x = S.getD j 0 := ⟨_, rfl⟩
  rw [← hx]
  have h1 : S.idxOf x < S.length := List.idxOf_lt_length_iff.2 (hx ▸ gd_mem hj)
  refine nd_inj hd h1 hj ?_
  rw [← hx, List.getD, List.getElem?_eq_getElem h1, Option.getD_some]
  exact List.getElem_idxOf h1
theorem wy_len {m : Mc} {S : List Int} {V : List (List Int)} {W : List Int} (hW : Wy m S V W) (h0 : V.getD 0 [] = []) : ∀ i, i < V.length → (V.getD i []).length ≤ i
  | 0, _ => by rw [h0]; simp
  | t + 1, hi => by
    obtain ⟨j, y, hj, _, _, e⟩ := hW.2 t (by have := hW.1; omega)
    rw [e, List.length_append, List.length_singleton]
    have := wy_len hW h0 j (by omega)
    omega
  termination_by i => i

/-- What accessWords leaves. -/
def WPost (w : World) (V : List (List Int)) (e : Ending) (w' : World) : Prop :=
  ∃ v vs, e = .returned v ∧ OwnV w' w.heap.size v V.length vs ∧ Fam w' w.heap.size V.length vs (nsV V) (fsV V) ∧ (∀ b, v.ownBlock = some b → ∀ i, i < V.length → (vs i).ownBlock ≠ some b) ∧ Below w.heap.size w w'

set_option maxHeartbeats 2000000 in
theorem access_any (m : Mc) (a0 : Option Addr) (c0 g : Nat) (aw : Option Addr) (cw : Nat) (S : List Int) (V : List (List Int)) (W : List Int) (w : World) (R : Right m) (hI : RInv m S.length 0 S V) (hW : Wy m S V W) (hN : NMap w g S) (hw : RdL .i64 w aw W) :
    Calls Try.prog 32 #[.int .i64 m.k, .agg #[.slice a0 S.length c0, .map (some g)], .slice aw W.length cw] w fun e w' => WPost w V e w' := by
  have s0 : (w.alloc (.cells #[.slice a0 S.length c0, .map (some g)] 58)).heap.size = w.heap.size + 1 := by simp
  have b0 := ballo w (.cells #[.slice a0 S.length c0, .map (some g)] 58)
  have C1 : (w.alloc (.cells #[.slice a0 S.length c0, .map (some g)] 58)).cell? ⟨w.heap.size, 1, none⟩ = some (.map (some g)) := by simp
  have I0 : RPInv (w.alloc (.cells #[.slice a0 S.length c0, .map (some g)] 58)) 1 (nsV V) (fsV V) ((w.alloc (.cells #[.slice a0 S.length c0, .map (some g)] 58)).alloc (.cells #[.slice none 0 0] 22)) (.slice (some ⟨w.heap.size + 1, 0, none⟩) 1 1) (fun _ => .slice none 0 0) := by
    refine ⟨?_, ⟨fun i hi => ?_, fun i j hi hj => by omega⟩, fun b e i hi e2 => (by cases e2), ballo _ _⟩
    · have := World.ownsRow_lit (base := w.heap.size + 1) (e := 22) (w.alloc (.cells #[.slice a0 S.length c0, .map (some g)] 58)) #[.slice none 0 0] (size := 1) 1 (by simp) (by unfold maxLen; simp) (by simp)
      rw [s0] at this ⊢
      exact this
    · obtain rfl : i = 0 := by omega
      have : nsV V 0 = 0 := by unfold nsV; rw [hI.v0]; rfl
      rw [this]; exact Own.nil _ _ _
  have HI0 := hide I0
  have k0 := R.k0
  have k1 := R.k1
  have HR := hide R
  have HI := hide hI
  have HW := hide hW
  have hl1 : W.length + 1 = V.length := hW.1
  have hl2 := hI.size R
  have hl3 := hI.len
  have hn1 := R.n1
  have hWl : W.length ≤ 1024 := by omega
  have HL := hide hl1
  clear I0 hI hW R hl1 hl2 hl3 hn1
  go_enter Try.func32, Try.ntmps32
  go_wp2
  generalize hw0 : w.alloc (.cells #[.slice a0 S.length c0, .map (some g)] 58) = w0 at *
  go_loopw [7, 15] (fun v a wr => ∃ (t : Nat) (vs : Nat → Value), t ≤ W.length ∧ a = .int .i64 t ∧ RPInv w0 (t + 1) (nsV V) (fsV V) wr v vs) (fun _ a _ => W.length - (intOf a).toNat)
  case atStart => exact ⟨0, _, Nat.zero_le _, rfl, unhide HI0⟩
  case round =>
    obtain ⟨t, vs, ht, rfl, hinv⟩ := hrel
    clear HI0
    have HV := hide hinv
    have hb := b0.trans (hinv.below.mono b0.size)
    have c1 : wr.cell? ⟨w.heap.size, 1, none⟩ = some (.map (some g)) := by rw [hinv.below.cell (by rw [s0]; simp)]; exact C1
    obtain ⟨gv, cv, ev, -, -, -, -, hcv, -⟩ := hinv.out.pos (by omega)
    subst ev
    by_cases hlt : t < W.length
    · obtain ⟨bw, ow, rfl, hcw⟩ := (hw.below hb).at hlt
      have hct := hcw t hlt
      have hlt' : (t : Int) < (W.length : Int) := by omega
      obtain ⟨j, y, hj, hy, e1, e2⟩ := (unhide HW).2 t hlt
      have hjS : j < S.length := by have := (unhide HW).1; have := (unhide HI).len; omega
      have hrj := (unhide HI).rng j hjS
      obtain ⟨Q, hQ, hQl, u0, u1, u2⟩ := way_of (unhide HR) hrj.1 hrj.2 (x := (y : Int)) (by omega) hy
      obtain ⟨P, hPe⟩ : ∃ P, P = W.getD t 0 := ⟨_, rfl⟩
      rw [← hPe] at hct e1
      have hPQ : P = (Q : Int) := by rw [e1, hQ]
      have hd : P / m.k = S.getD j 0 := by
        rw [e1, Int.mul_comm, Int.add_comm, Int.add_mul_ediv_left _ _ (by omega), Int.ediv_eq_zero_of_lt (by omega) hy]; omega
      have hmd : P % m.k = (y : Int) := by
        rw [e1, Int.mul_comm, Int.add_comm, Int.add_mul_emod_self_left, Int.emod_eq_of_lt (by omega) hy]
      have P0 : 0 ≤ P := by omega
      have P1 : P ≤ 65536 := by omega
      have d0 : 0 ≤ P / m.k := by rw [hd]; exact hrj.1
      have d1 : P / m.k ≤ 1024 := by rw [hd]; have := (unhide HR).n1; omega
      have r0 : 0 ≤ P % m.k := by rw [hmd]; omega
      have r1 : P % m.k ≤ 64 := by rw [hmd]; omega
      have hlook : ∀ q, (Instr.lookup 56 (.map (some g)) (.int .i64 (P / m.k)) false).run Try.prog (wr.drewN q) = .ok (.int .i64 (j : Nat)) (wr.drewN q) := fun q => by
        have := ((hN.below hb).draws q).look (r := P / m.k) (by rw [hd]; exact gd_mem hjS) (by omega) (by omega)
        rw [hd, idx_at (unhide HI).nd hjS] at this
        rw [hd]; exact this
      have hcj := hcv j (by omega)
      obtain ⟨aj, cj, ej, hnil, hlc, hrd, -⟩ := (hinv.fam.own j (by omega)).shape
      rw [ej] at hcj
      have hjt : (j : Int) < ((t + 1 : Nat) : Int) := by omega
      have HM := hide hmd
      have E2 := hide e2
      have hout := hinv.out
      have hzr := hinv.below.size
      rw [s0] at hzr
      have hXl : nsV V j ≤ 1024 := by
        have h1 := wy_len (unhide HW) (unhide HI).v0 j (by have := (unhide HW).1; omega)
        unfold nsV; have := unhide HL; omega
      obtain ⟨X, hX⟩ : ∃ X, X = V.getD j [] := ⟨_, rfl⟩
      have eX : nsV V j = X.length := by unfold nsV; rw [hX]
      have hrd' : RdL .i64 wr aj X := by rw [hX]; exact hrd
      rw [eX] at hcj hnil hlc hXl
      have HU : Hid (V.getD (t + 1) [] = X ++ [P % m.k]) := by show _ = _; rw [unhide E2, hX, unhide HM]
      have hu : ∀ (w4 : World) (u : Value), OwnL .i64 3 w4 wr.heap.size u (X ++ [P % m.k]) → Own w4 wr.heap.size u (nsV V (t + 1)) (fsV V (t + 1)) := fun _ _ h => by
        have h2 := own_of_list h
        rw [← unhide HU] at h2
        exact h2
      have HUU := hide hu
      clear hcw hPe hPQ hd hmd e1 e2 hQ hcv ej hinv hrd hlt hrj hX eX hu E2
      go_wp2
      go_quiet (fail)
      have hb1 : Below wr.heap.size wr (wr.drewN nq) := bdrew wr nq
      go_wp2_with (first | (at_make; refine wpl_roomL eInt rfl (.const (.int .i64 0)) (.tmp 30) rfl wr.heap.size _ (X.length + 1) rfl rfl (by go_num) (by omega) (Nat.le_refl _) ?_; intro w1 hown1 hb2; have z1 := (hb1.trans hb2).size) | (at_builtin; refine wpl_pushL eInt rfl (.tmp 32) (.tmp 33) rfl wr.heap.size _ [] rfl hown1 aj cj X rfl (hrd'.below (hb1.trans hb2)) hnil (by simp only [List.length_nil]; omega) z1 ?_; rw [List.nil_append]; intro v2 w2 hown2 hb3 _; have H2 := (hb1.trans hb2).trans hb3; have z2 := H2.size; obtain ⟨av2, cv2, ev2, -, -, -, -, -⟩ := hown2.shape; subst ev2) | (at_builtin; refine wpl_pushL eInt rfl (.tmp 36) (.tmp 40) rfl wr.heap.size _ X rfl (hown2.alloc _) (some ⟨w2.heap.size, 0, none⟩) 1 [P % m.k] rfl (RdL.one _ _) (by simp) (by simp; omega) (by simp; omega) ?_; intro v4 w4 hown4 hb4 _; have H4 := (H2.alloc (by omega) (.cells #[.int .i64 (P % m.k)] 3)).trans hb4; have z4 := H4.size; obtain ⟨av4, cv4, ev4, -, -, -, -, -⟩ := hown4.shape; rw [show (X ++ [P % m.k]).length = X.length + 1 by simp] at ev4; subst ev4) | (at_builtin; refine wplV_append3 rfl (.tmp 35) (.tmp 42) rfl w0.heap.size _ (t + 1) vs rfl ((hout.below H4).alloc _) ⟨w4.heap.size, 0, none⟩ 1 1 (fun _ => .slice av4 (X.length + 1) cv4) rfl (RdV.lit w4 1 (fun _ => .slice av4 (X.length + 1) cv4) _ (by unfold maxLen; omega) (by simp [cellsV])) (by intro i _; exact ⟨_, _, _, rfl⟩) (by omega) (by omega) (by simp; omega) ?_; intro v5 w5 hown5 hg5 hv5; obtain ⟨av5, cv5, ev5, -, -, -⟩ := hown5.shape; subst ev5))
      go_roundw
      case rel => exact ⟨t + 1, _, by omega, by go_num, (unhide HV).step (unhide HUU _ _ hown4) H4 _ hown5 hg5 hv5⟩
      case measure => simp [intOf]; omega
    · have he : t = W.length := by omega
      subst he
      go_wp2
      go_ret
      have h2 := unhide HV
      rw [unhide HL] at h2
      exact ⟨_, vs, (by rw [unhide HL]; rfl), h2.out.base b0.size, ⟨fun i hi => (h2.fam.own i hi).base b0.size, h2.fam.apart⟩, h2.apart, b0.trans (h2.below.mono b0.size)⟩

end Go.Proofs.Ytdlcbjbcehpooaa
