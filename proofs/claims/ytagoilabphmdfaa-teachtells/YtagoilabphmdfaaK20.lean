/-
  Some texts of this seat, one behind the other.
-/
import Derived.BigRegion
import Derived.DeepKeys4
import Derived.Test.YtagoilabphmdfaaK1
import Derived.Test.YtagoilabphmdfaaK13
import Derived.Test.YtagoilabphmdfaaK16
import Derived.Test.YtagoilabphmdfaaK17
import Derived.Test.YtagoilabphmdfaaK19
import Derived.Test.YtagoilabphmdfaaK2
import Derived.Test.YtagoilabphmdfaaK6
/-
  What newTies, end and tie of differ leave: chains that tell which states are held together.
-/
namespace Go.Proofs.Ytagoilabphmdfaa
open Go.RowKit

/-- The chains lie in memory. -/
def OwT (w : World) (B gb cap n : Nat) (g : Nat → Nat) : Prop := Own w B (.slice (some ⟨gb, 0, none⟩) n cap) n (fun i => ((g i : Nat) : Int))
section
variable {w w' : World} {B gb cap n : Nat} {g : Nat → Nat}
theorem OwT.at (h : OwT w B gb cap n g) (hn : 0 < n) : (n ≤ cap ∧ cap ≤ maxLen ∧ B ≤ gb ∧ gb < w.heap.size) ∧ (∀ i, i < n → w.cell? ⟨gb, i, none⟩ = some (.int .i64 ((g i : Nat) : Int))) ∧ ∀ i, w.frozen? ⟨gb, i, none⟩ = false := by
  obtain ⟨g', cap', e, h1, h2, h3, h4, h5, h6⟩ := Own.pos h hn
  cases e
  exact ⟨⟨h1, h2, h3, h4⟩, h5, h6⟩
theorem OwT.store (h : OwT w B gb cap n g) (j x : Nat) : OwT (w.setCell ⟨gb, j, none⟩ (.int .i64 (x : Int))) B gb cap n (upN g j x) :=
  Own.congr (Own.store h j (x : Int)) fun i _ => by
    unfold setF upN
    by_cases c : i = j
    · rw [if_pos c, if_pos c]
    · rw [if_neg c, if_neg c]
theorem OwT.congr {g' : Nat → Nat} (h : OwT w B gb cap n g) (e : ∀ i, i < n → g i = g' i) : OwT w B gb cap n g' := Own.congr h fun i hi => by rw [e i hi]
theorem OwT.keep (h : OwT w B gb cap n g) (e : w'.heap[gb]? = w.heap[gb]?) : OwT w' B gb cap n g := Own.keep h fun b hb => by cases hb; exact e
theorem OwT.below (h : OwT w B gb cap n g) (hb : Below w.heap.size w w') : OwT w' B gb cap n g := Own.below h hb
theorem OwT.lt (h : OwT w B gb cap n g) : B ≤ gb ∧ gb < w.heap.size := Own.lt h rfl
end
/-- What end leaves. -/
def EndPost (n : Nat) (rt dp : Nat → Nat) (B gb cap : Nat) (w : World) (v : Value) (e : Ending) (w' : World) : Prop :=
  e = .returned v ∧ ∃ g, UF n g rt dp ∧ OwT w' B gb cap n g ∧ Bx (fun k => k = gb) w w' ∧ w'.heap.size = w.heap.size

set_option maxRecDepth 100000 in
set_option maxHeartbeats 2000000 in
theorem end_any {n : Nat} {rt dp g : Nat → Nat} (B gb cap s : Nat) (w : World) (h : UF n g rt dp) (ho : OwT w B gb cap n g) (hn : n ≤ 1048576) (hs : s < n) :
    Calls Try.prog 67 #[.slice (some ⟨gb, 0, none⟩) n cap, .int .i64 (s : Int)] w fun e w' => EndPost n rt dp B gb cap w (.int .i64 ((rt s : Nat) : Int)) e w' := by
  have HU := hide h
  have HO := hide ho
  clear h ho
  go_enter Try.func67, Try.ntmps67
  go_wp2
  go_loopw [1] (fun v wx => ∃ (u : Nat) (g' : Nat → Nat), v = .int .i64 u ∧ u < n ∧ Hid (rt u = rt s) ∧ Hid (UF n g' rt dp) ∧ OwT wx B gb cap n g' ∧ Bx (fun k => k = gb) w wx ∧ Hid (wx.heap.size = w.heap.size)) (fun v _ => dp (intOf v).toNat)
  case atStart => exact ⟨s, g, rfl, hs, rfl, unhide HU, unhide HO, Bx.refl _ _, rfl⟩
  case round =>
    obtain ⟨u, g', rfl, hu, hrt, huf, hown, hbx, hsz⟩ := hrel
    clear HU HO hs
    have HOW := hide hown
    have HBX := hide hbx
    obtain ⟨⟨c1, c2, -, -⟩, hc, hf⟩ := hown.at (by omega)
    have hcu := hc u hu
    have hu' : (u : Int) < (n : Int) := by omega
    by_cases he : g' u = u
    · have te : ((u : Int) != (u : Int)) = false := by simp
      have HE : Hid (rt s = u) := (unhide hrt).symm.trans ((unhide huf).rf u hu he)
      rw [he] at hcu
      clear he hc hf hown hbx
      go_wp2
      go_ret
      refine ⟨by rw [unhide HE]; rfl, g', unhide huf, unhide HOW, unhide HBX, unhide hsz⟩
    · have hg1 := (unhide huf).rg u hu
      have hcg := hc (g' u) hg1
      have hfu := hf u
      have te : (((g' u : Nat) : Int) != (u : Int)) = true := by simp; omega
      have HE := hide he
      have HG1 := hide hg1
      have hg1' : ((g' u : Nat) : Int) < (n : Int) := by omega
      have hg2 := (unhide huf).rg _ hg1
      obtain ⟨z, hz⟩ : ∃ z, z = g' (g' u) := ⟨_, rfl⟩
      obtain ⟨y, hy⟩ : ∃ y, y = g' u := ⟨_, rfl⟩
      rw [← hz] at hcg hg2
      rw [← hy] at hcu hcg te hg1'
      have HZ := hide hz
      have HY := hide hy
      have hcs : (wr.setCell ⟨gb, u, none⟩ (.int .i64 (z : Int))).cell? ⟨gb, u, none⟩ = some (.int .i64 (z : Int)) := by
        have := ((unhide HOW).store u z).at (by omega)
        have := this.2.1 u hu
        rw [upN_same] at this
        exact this
      clear he hc hf hown hbx hg1 hz hy
      go_wp2
      go_roundw
      case rel =>
        refine ⟨z, upN g' u z, by go_num, hg2, ?_, ?_, (unhide HOW).store u z, (unhide HBX).setCell (p := ⟨gb, u, none⟩) rfl _, ?_⟩
        · show rt z = rt s
          rw [unhide HZ, (unhide huf).st _ (unhide HG1), (unhide huf).st _ hu]
          exact unhide hrt
        · rw [unhide HZ]; exact (unhide huf).halve hu (unhide HE)
        · show _ = _
          simp; exact unhide hsz
      case measure =>
        have h1 := (unhide huf).dn u hu (unhide HE)
        have h2 : dp z < dp u := by
          rw [unhide HZ]
          by_cases c : g' (g' u) = g' u
          · rw [c]; exact h1
          · exact Nat.lt_trans ((unhide huf).dn _ (unhide HG1) c) h1
        simpa [intOf] using h2

/-- What tie leaves. -/
def TiePost (n : Nat) (rt dp : Nat → Nat) (a b B gb cap : Nat) (w : World) (e : Ending) (w' : World) : Prop :=
  e = .returned (.bool (decide (rt a ≠ rt b))) ∧ ∃ g, UF n g (mrgR rt a b) (mrgD rt dp a b) ∧ OwT w' B gb cap n g ∧ Bx (fun k => k = gb) w w'

set_option maxRecDepth 100000 in
set_option maxHeartbeats 2000000 in
theorem tie_any {n : Nat} {rt dp g : Nat → Nat} (B gb cap a b : Nat) (w : World) (h : UF n g rt dp) (ho : OwT w B gb cap n g) (hn : n ≤ 1048576) (ha : a < n) (hb : b < n) :
    Calls Try.prog 62 #[.slice (some ⟨gb, 0, none⟩) n cap, .agg #[.int .i64 (a : Int), .int .i64 (b : Int)]] w fun e w' => TiePost n rt dp a b B gb cap w e w' := by
  have hlt := ho.lt
  have HO := hide (ho.below (ballo w (.cells #[.int .i64 (a : Int), .int .i64 (b : Int)] 114)))
  have HU := hide h
  have HLT := hide hlt
  have ra := h.rr a ha
  have rb := h.rr b hb
  clear h ho
  go_enter Try.func62, Try.ntmps62
  go_wp2
  have p0 : (w.alloc (.cells #[.int .i64 (a : Int), .int .i64 (b : Int)] 114)).cell? ⟨w.heap.size, 0, none⟩ = some (.int .i64 (a : Int)) := by unfold World.cell?; rw [heap_alloc_new]; rfl
  have p1 : (w.alloc (.cells #[.int .i64 (a : Int), .int .i64 (b : Int)] 114)).cell? ⟨w.heap.size, 1, none⟩ = some (.int .i64 (b : Int)) := by unfold World.cell?; rw [heap_alloc_new]; rfl
  have HW0 : Hid (Bx (fun k => k = gb) w (w.alloc (.cells #[.int .i64 (a : Int), .int .i64 (b : Int)] 114))) := (Bx.refl _ w).alloc _
  have hne : w.heap.size ≠ gb := by omega
  generalize w.alloc (.cells #[.int .i64 (a : Int), .int .i64 (b : Int)] 114) = w0 at *
  have HO0 : Hid (OwT w0.drew B gb cap n g) := (unhide HO).keep rfl
  have hba : (fun k => k = gb) w.heap.size → False := fun e => hne e
  clear HO hlt
  go_region_with (first | (have hmark := HB1; go_at_call 67; refine (end_any B gb cap b w1 HU1 HO1 hn hb).mono ?_; rintro e w2 ⟨rfl, g2, HU2, HO2, HB2, hz2⟩) | (go_at_call 67; refine (end_any B gb cap a w0.drew (unhide HU) (unhide HO0) hn ha).mono ?_; rintro e w1 ⟨rfl, g1, HU1, HO1, HB1, hz1⟩; have q1 : w1.cell? ⟨w.heap.size, 1, none⟩ = some (.int .i64 (b : Int)) := HB1.cell (show w0.drew.cell? ⟨w.heap.size, 1, none⟩ = _ from p1) hba))
  all_goals
    obtain ⟨⟨c1, c2, -, -⟩, hc, hf⟩ := HO2.at (by omega)
    have hca := hc (rt a) ra
    have hfa := hf (rt a)
    have HOW := hide HO2
    have HUF := hide HU2
    have HBX : Hid (Bx (fun k => k = gb) w w2) := (Bx.trans (Bx.trans (unhide HW0).drew HB1 fun _ _ e => e) HB2 fun _ _ e => e)
    have ra' : ((rt a : Nat) : Int) < (n : Int) := by omega
    clear hc hf HO2 HU2 HB1 HB2 HU1 HO1 HO0 HW0 p0 p1 q1 hz1 hz2
    go_wp2
    go_ret
    refine ⟨?_, upN g2 (rt a) (rt b), (unhide HUF).tie ha hb, (unhide HOW).store _ _, (unhide HBX).setCell (p := ⟨gb, rt a, none⟩) rfl _⟩
    show Ending.returned (.bool (((rt a : Nat) : Int) != ((rt b : Nat) : Int))) = _
    refine ret_bool ?_
    by_cases c : rt a = rt b
    · simp [c]
    · have c' : ((rt a : Nat) : Int) ≠ ((rt b : Nat) : Int) := by omega
      rw [bne_iff_ne.2 c', decide_eq_true c]

theorem eTies : EltV 3 119 (.int .i64 0) 8 := ⟨Try.underlying119, by kernel_rfl, by decide, rfl⟩
/-- What newTies leaves. -/
def NewTPost (n : Nat) (w : World) (e : Ending) (w' : World) : Prop :=
  ∃ gb, e = .returned (.slice (some ⟨gb, 0, none⟩) n n) ∧ OwT w' w.heap.size gb n n (fun s => s) ∧ Below w.heap.size w w'

set_option maxRecDepth 100000 in
set_option maxHeartbeats 2000000 in
theorem newTies_any (n : Nat) (w : World) (h0 : 1 ≤ n) (hn : n ≤ 1048576) :
    Calls Try.prog 61 #[.int .i64 (n : Int)] w fun e w' => NewTPost n w e w' := by
  go_enter Try.func61, Try.ntmps61
  go_wp2_with (at_make; refine wplE_make eTies rfl (.tmp 5) (.tmp 5) rfl w.heap.size _ _ n rfl rfl rfl rfl (by omega) (Nat.le_refl _) ?_; intro w1 hown1 hb1)
  have HO : Hid (OwT w1 w.heap.size w.heap.size n n (fun i => if i < 0 then i else 0)) := Own.congr (show Own w1 w.heap.size (.slice (some ⟨w.heap.size, 0, none⟩) n n) n (fun _ => 0) from hown1) fun i _ => by simp
  have HB := hide hb1
  clear hown1 hb1
  go_loopw [9] (fun v wx => ∃ j : Nat, v = .int .i64 j ∧ j ≤ n ∧ OwT wx w.heap.size w.heap.size n n (fun i => if i < j then i else 0) ∧ Below w.heap.size w wx) (fun v _ => n - (intOf v).toNat)
  case atStart => exact ⟨0, rfl, Nat.zero_le _, unhide HO, unhide HB⟩
  case round =>
    obtain ⟨j, rfl, hj, hown, hbx⟩ := hrel
    clear HO HB
    have HOW := hide hown
    have HBX := hide hbx
    by_cases hlt : j < n
    · have hlt' : (j : Int) < (n : Int) := by omega
      obtain ⟨-, hc, hf⟩ := hown.at (by omega)
      have hcj := hc j hlt
      have hfj := hf j
      clear hown hbx hc hf
      go_wp2
      go_roundw
      case rel =>
        refine ⟨j + 1, by go_num, hlt, ((unhide HOW).store j j).congr fun i hi => ?_, (unhide HBX).setCell (p := ⟨w.heap.size, j, none⟩) (Nat.le_refl _) _⟩
        unfold upN
        by_cases c : i = j
        · rw [if_pos c, if_pos (by omega), c]
        · rw [if_neg c]
          show (if i < j then i else 0) = _
          by_cases d : i < j
          · rw [if_pos d, if_pos (by omega)]
          · rw [if_neg d, if_neg (by omega)]
      case measure => simp [intOf]; omega
    · have hlt' : ¬ (j : Int) < (n : Int) := by omega
      clear hown hbx
      go_wp2
      go_ret
      exact ⟨w.heap.size, rfl, (unhide HOW).congr fun i hi => by rw [if_pos (by omega)], unhide HBX⟩
end Go.Proofs.Ytagoilabphmdfaa

/-
  The map of the pairs that were seen: of each but the first from which pair, by which symbol it was come to.
-/
namespace Go.Proofs.Ytagoilabphmdfaa
open Go.RowKit Go.Maps

/-- A pair as a value, a step as a value. -/
def pvl (p : Int × Int) : Value := .agg #[.int .i64 p.1, .int .i64 p.2]
def svl (u : (Int × Int) × Int) : Value := .agg #[.int .i64 u.1.1, .int .i64 u.1.2, .int .i64 u.2]
def FitP (p : Int × Int) : Prop := (0 ≤ p.1 ∧ p.1 ≤ 1099511627776) ∧ 0 ≤ p.2 ∧ p.2 ≤ 1099511627776
theorem laidD : laidOutB Try.prog = true := by kernel_rfl
theorem wideP : (match Try.prog.underlying 114 with | some (.array _ _) | some (.struct _) => true | _ => false) = true := by rw [Try.underlying114]
set_option maxRecDepth 100000 in
theorem keyedP : Keyed Try.prog 114 := Keyed.of_law (deep_law_laid laidD (m := 3) (by omega) (of_decide_eq_true (by kernel_rfl)) (by kernel_rfl) wideP)
theorem keyP {p : Int × Int} (h : FitP p) : ∃ kl, keyOf Try.prog 114 (pvl p) = some kl := by
  have hk : Try.prog.keyType 114 = true := by kernel_rfl
  have c1 : Try.prog.cellsOf 114 = 2 := by kernel_rfl
  have c2 : Try.prog.cellsOf 3 = 1 := by kernel_rfl
  have hsz : ∃ d, Try.prog.types.size + 1 = d + 1 + 1 := ⟨Try.prog.types.size - 1, by have : 2 ≤ Try.prog.types.size := of_decide_eq_true (by kernel_rfl); omega⟩
  obtain ⟨d, hd⟩ := hsz
  have hf : (pvl p).formed Try.prog 114 = true := by
    simp [pvl, Value.formed, Try.underlying114, c1]
  have w1 : (Lit.int .i64 p.1).wf = true := WalkArith.wf_i64 (by have := h.1; omega)
  have w2 : (Lit.int .i64 p.2).wf = true := WalkArith.wf_i64 (by have := h.2; omega)
  have k3 : ∃ ls, Try.prog.keyLits (d + 1 + 1) 114 [.int .i64 p.1, .int .i64 p.2] = some ls := by
    refine ⟨[.int .i64 p.1, .int .i64 p.2], ?_⟩
    unfold Program.keyLits
    simp only [Try.underlying114]
    simp [c1, c2, Program.keyLits, Try.underlying3, w1, w2]
  obtain ⟨ls, hls⟩ := k3
  refine ⟨.string (keyBytes ls), ?_⟩
  unfold pvl at hf ⊢
  unfold keyOf
  rw [Try.underlying114]
  simp only [hk, hf, Bool.and_self, if_true, hd, Value.cells, hls, Option.map_some]
noncomputable def kyP (p : Int × Int) : Lit := (keyOf Try.prog 114 (pvl p)).getD (.bool false)
theorem kyP_of {p : Int × Int} (h : FitP p) : keyOf Try.prog 114 (pvl p) = some (kyP p) := by
  obtain ⟨kl, e⟩ := keyP h
  unfold kyP; rw [e]; rfl
theorem pvl_inj {p q : Int × Int} (h : pvl p = pvl q) : p = q := by
  unfold pvl at h
  simp at h
  exact Prod.ext h.1 h.2
theorem kyP_inj {p q : Int × Int} (hp : FitP p) (hq : FitP q) (e : kyP p = kyP q) : p = q := by
  have h1 := kyP_of hp
  rw [e] at h1
  exact pvl_inj (keyedP.inj h1 (kyP_of hq))
set_option maxRecDepth 100000 in
theorem kyP_lit {p : Int × Int} (h : FitP p) : WideAt.IsKeyLit (kyP p) := keyedP.key (kyP_of h)

/-- How a step reads. -/
def stDf (u : (Int × Int) × Int) : DataW Unit := .agg [.lit (.int .i64 u.1.1), .lit (.int .i64 u.1.2), .lit (.int .i64 u.2)]
def stR (v : Value) : Option (DataW Unit × List MemPlace) :=
  match v with
  | .agg c => match c.toList with
    | [.int .i64 a, .int .i64 b, .int .i64 y] => some (stDf ((a, b), y), [])
    | _ => none
  | _ => none
theorem stR_of (u : (Int × Int) × Int) : stR (svl u) = some (stDf u, []) := rfl
theorem stR_inv {v : Value} {u : (Int × Int) × Int} {ps : List MemPlace} (h : stR v = some (stDf u, ps)) : v = svl u := by
  unfold stR at h
  split at h
  · rename_i c
    split at h
    · rename_i a b y e
      have h1 := congrArg Prod.fst (Option.some.inj h)
      simp [stDf] at h1
      obtain ⟨rfl, rfl, rfl⟩ := h1
      unfold svl
      congr 1
      exact List.toArray_inj (by simpa using e) |> fun x => by cases c; simp_all
    · cases h
  · cases h
theorem zeroStep (w : World) : (zeroValue 126).run Try.prog w = .ok (svl ((0, 0), 0)) w := Try.zeroValue126 w

def SaysU (D : DataW Unit) (S : List (Int × Int)) (U : List ((Int × Int) × Int)) : Prop :=
  ∀ p, 0 < p → p < S.length → D.atKey (kyP (S.getD p (0, 0))) (stDf ((0, 0), 0)) = stDf (U.getD p ((0, 0), 0))
def UMap (w : World) (b n : Nat) (S : List (Int × Int)) (U : List ((Int × Int) × Int)) : Prop :=
  ∃ D : DataW Unit, w.ownsMap Try.prog 114 stR b n D ∧ SaysU D S U
section
variable {w w' : World} {b n : Nat} {S : List (Int × Int)} {U : List ((Int × Int) × Int)}
theorem UMap.keep (h : UMap w b n S U) (e : w'.heap[b]? = w.heap[b]?) : UMap w' b n S U := by
  obtain ⟨D, ⟨es, clock, hb, F, hs, hD⟩, hsay⟩ := h
  exact ⟨D, ⟨es, clock, e.trans hb, F, hs, hD⟩, hsay⟩
theorem UMap.lt (h : UMap w b n S U) : b < w.heap.size := by
  obtain ⟨D, ho, _⟩ := h
  exact ho.lt
theorem UMap.below (h : UMap w b n S U) (hb : Below w.heap.size w w') : UMap w' b n S U := h.keep (hb.block b h.lt)
theorem UMap.start (w : World) (p : Int × Int) (u : (Int × Int) × Int) : UMap (w.alloc (.map #[] 0)) w.heap.size 0 [p] [u] :=
  ⟨.map [], World.ownsMap_made w Try.prog _ _, fun q h1 h2 => by simp at h2; omega⟩
theorem UMap.look (h : UMap w b n S U) {p : Nat} (p0 : 0 < p) (hp : p < S.length) (hf : FitP (S.getD p (0, 0))) :
    (Instr.lookup 118 (.map (some b)) (pvl (S.getD p (0, 0))) false).run Try.prog w = .ok (svl (U.getD p ((0, 0), 0))) w := by
  obtain ⟨D, ho, hs⟩ := h
  obtain ⟨v, ps, hrun, hv⟩ := ho.lookup keyedP Try.underlying118 (zeroStep w) (stR_of _) (kyP_of hf)
  rw [hs p p0 hp] at hv
  rw [stR_inv hv] at hrun
  exact hrun
set_option maxRecDepth 100000 in
theorem UMap.put (h : UMap w b n S U) (hl : S.length = U.length) (hn : n < maxLen) {N : Int × Int} (u : (Int × Int) × Int) (hN : ¬ N ∈ S) (hf : FitP N) (hS : ∀ p, p < S.length → FitP (S.getD p (0, 0))) :
    ∃ w', (Instr.mapUpdate 118 (.map (some b)) (pvl N) (svl u)).run Try.prog w = .ok () w' ∧ UMap w' b (n + 1) (S ++ [N]) (U ++ [u]) ∧ w.grownBy w' (some b) := by
  obtain ⟨D, ho, hs⟩ := h
  obtain ⟨w1, hrun, hm1, hg1⟩ := ho.update keyedP Try.underlying118 hn (kyP_of hf) (stR_of u)
  refine ⟨w1, hrun, ⟨_, hm1, fun p p0 hp => ?_⟩, hg1⟩
  rw [List.length_append, List.length_singleton] at hp
  by_cases e : p = S.length
  · subst e
    rw [gd_mid, atKey_put_same ho.isMap (kyP_lit hf), hl, gd_mid]
  · have hp' : p < S.length := by omega
    rw [gd_left _ hp', gd_left _ (by omega), atKey_put_other, hs p p0 hp']
    intro c
    apply hN
    rw [← kyP_inj (hS p hp') hf c]
    exact gd_memα hp'
end
end Go.Proofs.Ytagoilabphmdfaa

/-
  What wordTo of differ returns: the word by which a pair was first come to.
-/
namespace Go.Proofs.Ytagoilabphmdfaa
open Go.RowKit Go.Maps

def slen : Value → Nat
  | .slice _ n _ => n
  | _ => 0
/-- A pair in a box. -/
structure Bxp (w : World) (b : Nat) (p : Int × Int) : Prop where
  c0 : w.cell? ⟨b, 0, none⟩ = some (.int .i64 p.1)
  c1 : w.cell? ⟨b, 1, none⟩ = some (.int .i64 p.2)
  f0 : w.frozen? ⟨b, 0, none⟩ = false
  f1 : w.frozen? ⟨b, 1, none⟩ = false
theorem Bxp.of {w : World} {b : Nat} {x y : Int} {t : TypeId} (h : w.heap[b]? = some (.cells #[.int .i64 x, .int .i64 y] t)) : Bxp w b (x, y) := by
  constructor <;> (first | unfold World.cell? | unfold World.frozen?) <;> rw [h] <;> rfl
theorem Bxp.keep {w w' : World} {b : Nat} {p : Int × Int} (h : Bxp w b p) (e : w'.heap[b]? = w.heap[b]?) : Bxp w' b p := by
  obtain ⟨h0, h1, h2, h3⟩ := h
  constructor
  · rw [World.cell?_of_block e]; exact h0
  · rw [World.cell?_of_block e]; exact h1
  · unfold World.frozen? at h2 ⊢; rw [e]; exact h2
  · unfold World.frozen? at h3 ⊢; rw [e]; exact h3
theorem Bxp.lt {w : World} {b : Nat} {p : Int × Int} (h : Bxp w b p) : b < w.heap.size := World.block_lt_of_cell? w _ h.c0

theorem Bxp.set {w : World} {b : Nat} {p : Int × Int} (h : Bxp w b p) (x y : Int) : Bxp ((w.setCell ⟨b, 0, none⟩ (.int .i64 x)).setCell ⟨b, 1, none⟩ (.int .i64 y)) b (x, y) := by
  obtain ⟨h0, h1, h2, h3⟩ := h
  have ot : ∀ (u : World) (i j : Nat) (v : Value), i ≠ j → (u.setCell ⟨b, i, none⟩ v).cell? ⟨b, j, none⟩ = u.cell? ⟨b, j, none⟩ := fun u i j v hi => World.cell?_setCell_other (w := u) (a := ⟨b, i, none⟩) (b := ⟨b, j, none⟩) (v := v) (h := fun e => hi (by injection e with _ e2 _))
  constructor
  · rw [ot _ 1 0 _ (by decide)]; exact World.cell?_setCell_same _ _ _ h0
  · exact World.cell?_setCell_same _ _ _ ((ot _ 0 1 _ (by decide)).trans h1)
  · simp [h2]
  · simp [h3]
theorem nd_injP {S : List (Int × Int)} (h : S.Nodup) {p q : Nat} (hp : p < S.length) (hq : q < S.length) (e : S.getD p (0, 0) = S.getD q (0, 0)) : p = q := by
  rw [List.getD_eq_getElem?_getD, List.getD_eq_getElem?_getD, List.getElem?_eq_getElem hp, List.getElem?_eq_getElem hq] at e
  exact (List.getElem_inj h).1 e
set_option maxRecDepth 100000 in
set_option maxHeartbeats 2000000 in
theorem wordTo_any {m : Mc} {k i x : Nat} {p0 : Int × Int} {S : List (Int × Int)} {V : List (List Int)} {U : List ((Int × Int) × Int)} (h : TiI m k p0 i x S V U) (c b n : Nat) (w : World) (hc : c < S.length) (hm : UMap w b n S U) (hf : ∀ p, p < S.length → FitP (S.getD p (0, 0))) (hl : S.length ≤ 1099511627776) :
    Calls Try.prog 64 #[pvl (S.getD c (0, 0)), pvl p0, .map (some b)] w fun e w' => ∃ v, e = .returned v ∧ OwnL .i64 3 w' w.heap.size v (V.getD c []) ∧ Below w.heap.size w w' := by
  obtain ⟨P, hP⟩ : ∃ P, P = S.getD c (0, 0) := ⟨_, rfl⟩
  rw [← hP]
  obtain ⟨w0, hw0⟩ : ∃ w0, w0 = (w.alloc (.cells #[.int .i64 P.1, .int .i64 P.2] 114)).alloc (.cells #[.int .i64 p0.1, .int .i64 p0.2] 114) := ⟨_, rfl⟩
  have b0 : Below w.heap.size w w0 := by rw [hw0]; exact bstep (ballo _ _) (ballo _ _)
  have A0 : Bxp w0 w.heap.size P := by
    refine Bxp.of (t := 114) ?_
    rw [hw0, Below.heap_alloc _ _ _ (by simp)]
    exact heap_alloc_new w _
  have B0 : Bxp w0 (w.heap.size + 1) p0 := by
    refine Bxp.of (t := 114) ?_
    rw [hw0]
    have := heap_alloc_new (w.alloc (.cells #[.int .i64 P.1, .int .i64 P.2] 114)) (.cells #[.int .i64 p0.1, .int .i64 p0.2] 114)
    rw [World.size_alloc] at this
    exact this
  rw [hP] at A0
  have HI := hide h
  have HM := hide hm
  have HF := hide hf
  have HA := hide A0
  have HB := hide B0
  have HW : Hid (Below w.heap.size w w0) := b0
  clear h hm hf A0 B0 b0 hP
  unfold pvl
  go_enter Try.func64, Try.ntmps64
  go_wp2
  rw [← hw0]
  go_loopw [7] (fun v wx => ∃ (q : Nat) (acc : List Int), q < S.length ∧ OwnL .i64 3 wx (w.heap.size + 2) v acc ∧ Hid (V.getD c [] = V.getD q [] ++ acc.reverse) ∧ Bxp wx w.heap.size (S.getD q (0, 0)) ∧ Bxp wx (w.heap.size + 1) p0 ∧ Below w.heap.size w wx) (fun v _ => (V.getD c []).length - slen v)
  case atStart => exact ⟨c, [], hc, OwnL.nil _ _ _ _, by show _ = _; simp, unhide HA, unhide HB, unhide HW⟩
  case round =>
    obtain ⟨q, acc, hq, hown, hacc, hA, hB, hbx⟩ := hrel
    clear HA HB HW hw0 w0
    have HOW := hide hown
    have HAQ := hide hA
    have HBQ := hide hB
    have HBX := hide hbx
    obtain ⟨s0, t0⟩ := p0
    obtain ⟨⟨Qs, Qt⟩, hQ⟩ : ∃ Q, Q = S.getD q (0, 0) := ⟨_, rfl⟩
    rw [← hQ] at hA
    obtain ⟨a0, a1, f0, f1⟩ := hA
    obtain ⟨d0, d1, -, -⟩ := hB
    have a0 : wr.cell? ⟨w.heap.size, 0, none⟩ = some (.int .i64 Qs) := a0
    have a1 : wr.cell? ⟨w.heap.size, 1, none⟩ = some (.int .i64 Qt) := a1
    have d0 : wr.cell? ⟨w.heap.size + 1, 0, none⟩ = some (.int .i64 s0) := d0
    have d1 : wr.cell? ⟨w.heap.size + 1, 1, none⟩ = some (.int .i64 t0) := d1
    obtain ⟨av, cv, ev, -, -, -, -, -⟩ := hown.shape
    subst ev
    by_cases hq0 : q = 0
    · obtain ⟨rfl, rfl⟩ : s0 = Qs ∧ t0 = Qt := by
        have := (unhide HI).s0
        rw [← hq0, ← hQ] at this
        exact ⟨(congrArg Prod.fst this).symm, (congrArg Prod.snd this).symm⟩
      have HE : Hid (V.getD c [] = acc.reverse) := by
        show _ = _
        rw [unhide hacc, hq0, (unhide HI).v0, List.nil_append]
      clear hown hbx hQ hacc HAQ HBQ
      by_cases ha0 : acc.length = 0
      · obtain rfl : acc = [] := List.length_eq_zero_iff.1 ha0
        clear ha0
        go_wp2_with (go_at_call 68; refine (reverse_none _ _ _).mono ?_; rintro e w' ⟨rfl, hw'⟩; subst w')
        go_ret
        exact ⟨_, rfl, by rw [unhide HE]; exact OwnL.mono (unhide HOW) (by omega), unhide HBX⟩
      · obtain ⟨g, cap, e, c1, c2, c3, c4, -, -⟩ := OwnL.pos (unhide HOW) (by omega)
        have HLA : Hid (acc.length ≤ 1099511627776) := by
          show _ ≤ _
          have h1 := congrArg List.length (unhide HE)
          rw [List.length_reverse] at h1
          have h2 := tii_len (unhide HI) c hc
          omega
        cases e
        have HR := hide (reverse_any (w.heap.size + 2) g cv acc.length (fun i => acc.getD i 0) wr (own_of_list (unhide HOW)) (by omega) (unhide HLA))
        clear ha0 c1 c2 c3 c4
        go_wp2_with fail
        refine (unhide HR).mono ?_
        rintro e w1 ⟨rfl, hown1, hbx1, hz1⟩
        have HO1 : Hid (OwnL .i64 3 w1 w.heap.size (.slice (some ⟨g, 0, none⟩) acc.length cv) acc.reverse) := by
          refine OwnL.mono (B := w.heap.size + 2) (list_of_own ?_) (by omega)
          rw [List.length_reverse]
          exact hown1.congr fun k hk => by
            simp [List.getD, List.getElem?_reverse hk]
        have HB1 : Hid (Below w.heap.size w w1) := (unhide HBX).trans (hbx1.below (B := w.heap.size) (fun k e => by have := (OwnL.lt (unhide HOW) (b := g) rfl).1; omega) (unhide HBX).size)
        clear hown1 hbx1 hz1 HR
        go_wp2
        go_ret
        exact ⟨_, rfl, by rw [unhide HE]; exact unhide HO1, unhide HB1⟩
    · have HQ : Hid (Qs = s0 → Qt ≠ t0) := fun e1 e2 => by
        have h1 : S.getD 0 (0, 0) = S.getD q (0, 0) := by rw [(unhide HI).s0, ← hQ, e1, e2]
        exact hq0 (nd_injP (unhide HI).nd (unhide HI).ne hq h1).symm
      obtain ⟨j, y, hj, -, hy, eV, eU⟩ := (unhide HI).par q (by omega) hq
      have HL := (UMap.below (unhide HM) (unhide HBX)).look (by omega) hq (unhide HF q hq)
      rw [← hQ, eU] at HL
      unfold pvl svl at HL
      dsimp only at HL
      obtain ⟨⟨Rs, Rt⟩, hR⟩ : ∃ R, R = S.getD j (0, 0) := ⟨_, rfl⟩
      rw [← hR] at HL
      dsimp only at HL
      have HEV := hide eV
      have HRJ : Hid (S.getD j (0, 0) = (Rs, Rt)) := hR.symm
      have hjS : j < S.length := by omega
      have HAC : Hid (acc.length + 1 ≤ (V.getD c []).length) := by
        show _ ≤ _
        rw [unhide hacc, eV]
        simp
      have HLC := hide (tii_len (unhide HI) c hc)
      have hal : acc.length ≤ 1099511627776 := by have := unhide HAC; have := unhide HLC; omega
      have wsz := (unhide HBX).size
      have hwb := (unhide HBQ).lt
      have HCN : Hid (c < S.length) := hc
      clear hown hbx hQ eV eU hj hR HI HF HM hc hl
      obtain ⟨W1, hW1⟩ : ∃ W1, W1 = (wr.alloc (.cells #[.int .i64 Rs, .int .i64 Rt, .int .i64 (y : Int)] 126)).alloc (.cells #[.int .i64 (y : Int)] 3) := ⟨_, rfl⟩
      have zW : W1.heap.size = wr.heap.size + 2 := by rw [hW1]; simp
      have bW : Below wr.heap.size wr W1 := by rw [hW1]; exact bstep (ballo _ _) (ballo _ _)
      have HY1 : RdL .i64 W1 (some ⟨wr.heap.size + 1, 0, none⟩) [(y : Int)] := by
        have := RdL.one (q := .i64) (t := 3) (wr.alloc (.cells #[.int .i64 Rs, .int .i64 Rt, .int .i64 (y : Int)] 126)) (y : Int)
        rw [World.size_alloc] at this
        rw [hW1]; exact this
      have HSW : W1.heap[wr.heap.size]? = some (.cells #[.int .i64 Rs, .int .i64 Rt, .int .i64 (y : Int)] 126) := by
        rw [hW1, Below.heap_alloc _ _ _ (by simp)]; exact heap_alloc_new _ _
      have HO1 : Hid (OwnL .i64 3 W1 (w.heap.size + 2) (.slice av acc.length cv) acc) := (unhide HOW).grown bW
      have HK : Hid (∀ w', W1.grownBy w' (Value.slice av acc.length cv).ownBlock → (∀ k, k < w.heap.size + 2 → w'.heap[k]? = wr.heap[k]?) ∧ w'.heap[wr.heap.size]? = some (.cells #[.int .i64 Rs, .int .i64 Rt, .int .i64 (y : Int)] 126)) := fun w' hg => by
        refine ⟨fun k hk => ?_, ?_⟩
        · rw [hg.block k (by omega) (fun e => by have := (OwnL.lt (unhide HOW) e.symm).1; omega)]
          exact bW.block k (by omega)
        · rw [hg.block _ (by omega) (fun e => by have := (OwnL.lt (unhide HOW) e.symm).2; omega)]
          exact HSW
      have HSWH := hide HSW
      have hst : ∀ w', W1.grownBy w' (Value.slice av acc.length cv).ownBlock → w'.cell? ⟨wr.heap.size, 0, none⟩ = some (.int .i64 Rs) ∧ w'.cell? ⟨wr.heap.size, 1, none⟩ = some (.int .i64 Rt) := fun w' hg => by
        have := ((unhide HK) w' hg).2
        unfold World.cell?
        rw [this]
        exact ⟨rfl, rfl⟩
      have HST := hide hst
      have HBW := hide bW
      have HZW := hide zW
      have HY2 : Hid ((acc.length + 1) * 8 ≤ 140737488355328 ∧ w.heap.size + 2 ≤ W1.heap.size) := ⟨by omega, by omega⟩
      have HYY : Hid (RdL .i64 W1 (some ⟨wr.heap.size + 1, 0, none⟩) [(y : Int)]) := HY1
      clear HSW HSWH hst bW zW HY1
      have fin : ∀ (v' : Value) (w' : World), OwnL .i64 3 w' (w.heap.size + 2) v' (acc ++ [(y : Int)]) → W1.grownBy w' (Value.slice av acc.length cv).ownBlock → ∃ (q : Nat) (acc : List Int), q < S.length ∧ OwnL .i64 3 ((w'.setCell ⟨w.heap.size, 0, none⟩ (.int .i64 Rs)).setCell ⟨w.heap.size, 1, none⟩ (.int .i64 Rt)) (w.heap.size + 2) v' acc ∧ Hid (V.getD c [] = V.getD q [] ++ acc.reverse) ∧ Bxp ((w'.setCell ⟨w.heap.size, 0, none⟩ (.int .i64 Rs)).setCell ⟨w.heap.size, 1, none⟩ (.int .i64 Rt)) w.heap.size (S.getD q (0, 0)) ∧ Bxp ((w'.setCell ⟨w.heap.size, 0, none⟩ (.int .i64 Rs)).setCell ⟨w.heap.size, 1, none⟩ (.int .i64 Rt)) (w.heap.size + 1) (s0, t0) ∧ Below w.heap.size w ((w'.setCell ⟨w.heap.size, 0, none⟩ (.int .i64 Rs)).setCell ⟨w.heap.size, 1, none⟩ (.int .i64 Rt)) := by
        intro v' w' hown' hg'
        have K := (unhide HK) w' hg'
        have KS : ∀ k, k ≠ w.heap.size → ((w'.setCell ⟨w.heap.size, 0, none⟩ (.int .i64 Rs)).setCell ⟨w.heap.size, 1, none⟩ (.int .i64 Rt)).heap[k]? = w'.heap[k]? := fun k hk => by
          rw [Below.heap_setCell _ _ _ _ hk, Below.heap_setCell _ _ _ _ hk]
        refine ⟨j, acc ++ [(y : Int)], hjS, hown'.keep fun b e => KS b (by have := (hown'.lt e).1; omega), ?_, ?_, ?_, ?_⟩
        · show _ = _
          rw [unhide hacc, unhide HEV]; simp
        · rw [unhide HRJ]
          exact Bxp.set ((unhide HAQ).keep (K.1 _ (by omega))) Rs Rt
        · exact (unhide HBQ).keep ((KS _ (by omega)).trans (K.1 _ (by omega)))
        · refine ⟨?_, ?_, ?_, ?_, fun k hk => ?_⟩
          · exact hg'.os.trans ((unhide HBW).os.trans (unhide HBX).os)
          · exact hg'.tape.trans ((unhide HBW).tape.trans (unhide HBX).tape)
          · exact hg'.output.trans ((unhide HBW).output.trans (unhide HBX).output)
          · have := hg'.size; have := unhide HZW; simp; omega
          · rw [KS k (by omega), K.1 k (by omega)]; exact (unhide HBX).block k hk
      have FIN := hide fin
      clear fin
      have mea : ∀ (v' : Value), (∃ a c, v' = .slice a (acc ++ [(y : Int)]).length c) → (V.getD c []).length - slen v' < (V.getD c []).length - slen (Value.slice av acc.length cv) := fun v' ⟨a, c', e⟩ => by
        subst e
        have h1 := unhide HAC
        have h2 : (acc ++ [(y : Int)]).length = acc.length + 1 := by simp
        show (V.getD c []).length - (acc ++ [(y : Int)]).length < (V.getD c []).length - acc.length
        omega
      have MEA := hide mea
      clear mea
      by_cases e1 : Qs = s0
      · subst e1
        have e2 := unhide HQ rfl
        clear HQ
        go_wp2_with (at_builtin; rw [← hW1]; refine wpl_pushL eInt rfl (.tmp 15) (.tmp 18) rfl (w.heap.size + 2) _ acc rfl (unhide HO1) (some ⟨wr.heap.size + 1, 0, none⟩) 1 [(y : Int)] rfl (unhide HYY) (fun e => by cases e) (unhide HY2).1 (unhide HY2).2 ?_; intro v' w' hown' hb' hg'; obtain ⟨e0', e1'⟩ := unhide HST w' hg'; obtain ⟨a0', a1', f0', f1'⟩ := (unhide HAQ).keep ((unhide HK w' hg').1 w.heap.size (by omega)))
        obtain ⟨av', cv', ev', -, -, -, -, -⟩ := hown'.shape
        exact ⟨unhide FIN v' w' hown' hg', unhide MEA v' ⟨_, _, ev'⟩⟩
      · clear HQ
        go_wp2_with (at_builtin; rw [← hW1]; refine wpl_pushL eInt rfl (.tmp 15) (.tmp 18) rfl (w.heap.size + 2) _ acc rfl (unhide HO1) (some ⟨wr.heap.size + 1, 0, none⟩) 1 [(y : Int)] rfl (unhide HYY) (fun e => by cases e) (unhide HY2).1 (unhide HY2).2 ?_; intro v' w' hown' hb' hg'; obtain ⟨e0', e1'⟩ := unhide HST w' hg'; obtain ⟨a0', a1', f0', f1'⟩ := (unhide HAQ).keep ((unhide HK w' hg').1 w.heap.size (by omega)))
        obtain ⟨av', cv', ev', -, -, -, -, -⟩ := hown'.shape
        exact ⟨unhide FIN v' w' hown' hg', unhide MEA v' ⟨_, _, ev'⟩⟩
end Go.Proofs.Ytagoilabphmdfaa

/-
  What saidBy and isState of differ return.
-/
namespace Go.Proofs.Ytagoilabphmdfaa
open Go.RowKit

/-- What is said last, if x comes in state s. -/
def sdB (m : Mc) (s : Int) (x : Int) : Int := if m.kind = 1 then m.out.getD (nxt m s x).toNat 0 else m.out.getD (s * m.k + x).toNat 0
theorem tl1_sd {m : Mc} {p : Int × Int} {y : Nat} : tl1 m m p y ↔ sdB m p.1 y ≠ sdB m p.2 y := by
  unfold tl1 sdB
  by_cases h : m.kind = 1
  · simp only [if_pos h]
  · simp only [if_neg h]

set_option maxRecDepth 100000 in
set_option maxHeartbeats 2000000 in
theorem saidBy_any (m : Mc) (a1 : Option Addr) (c1 : Nat) (a2 : Option Addr) (c2 : Nat) (s x : Nat) (w : World) (R : Right m) (h1 : RdL .i64 w a1 m.nx) (h2 : RdL .i64 w a2 m.out) (hs : (s : Int) < m.n) (hx : (x : Int) < m.k) :
    Calls Try.prog 63 #[mval m a1 c1 a2 c2, .int .i64 (s : Int), .int .i64 (x : Int)] w fun e w' => e = .returned (.int .i64 (sdB m s x)) ∧ Below w.heap.size w w' := by
  unfold mval
  have B0 := Box.alloc w m a1 c1 a2 c2 24
  have b0 := ballo w (.cells #[.int .i64 m.kind, .int .i64 m.k, .int .i64 m.o, .int .i64 m.n, .slice a1 m.nx.length c1, .slice a2 m.out.length c2] 24)
  obtain ⟨P, hP, hPl, x0, x1, x2⟩ := way_of R (s := (s : Int)) (by omega) hs (x := (x : Int)) (by omega) hx
  obtain ⟨b7, off7, e7, hm7⟩ := (h1.below b0).at hPl
  subst e7
  have hnP := hm7 P hPl
  have rP := R.st P hPl
  obtain ⟨p0, p1, p2, p3, p4, p5⟩ := B0
  have HB := hide b0
  have hn1 := R.n1
  have hPl' : (P : Int) < (m.nx.length : Int) := by omega
  obtain ⟨u, hu⟩ := Int.eq_ofNat_of_zero_le rP.1
  rw [hu] at hnP
  by_cases hk : m.kind = 1
  · have ol := R.outD hk
    have hul : u < m.out.length := by omega
    obtain ⟨b8, off8, e8, hm8⟩ := (h2.below b0).at hul
    subst e8
    have hoP := hm8 u hul
    have HE : Hid (sdB m s x = m.out.getD u 0) := by
      show _ = _
      unfold sdB
      rw [if_pos hk, show nxt m s x = (u : Int) from by unfold nxt; rw [hP, Int.toNat_natCast, hu], Int.toNat_natCast]
    have hul' : (u : Int) < (m.out.length : Int) := by omega
    have tk : (m.kind == 1) = true := by simp [hk]
    rw [unhide HE]
    clear hm7 hm8 HE rP hu ol b0 h1 h2 hk
    generalize m.out.getD u 0 = y at *
    go_enter Try.func63, Try.ntmps63
    go_wp2
    go_quiet (fail)
    go_wp2
    go_ret
    exact ⟨rfl, below_drewN (unhide HB) _⟩
  · have k2 : m.kind = 2 := by rcases R.kd with h | h <;> omega
    have ol := R.outM k2
    have hPo : P < m.out.length := by have := R.nx; omega
    obtain ⟨b8, off8, e8, hm8⟩ := (h2.below b0).at hPo
    subst e8
    have hoP := hm8 P hPo
    have HE : Hid (sdB m s x = m.out.getD P 0) := by
      show _ = _
      unfold sdB
      rw [if_neg hk, hP, Int.toNat_natCast]
    have hPo' : (P : Int) < (m.out.length : Int) := by omega
    have tk : (m.kind == 1) = false := by simp; exact hk
    rw [unhide HE]
    clear hm7 hm8 HE rP hu ol b0 h1 h2 hk k2
    generalize m.out.getD P 0 = y at *
    go_enter Try.func63, Try.ntmps63
    go_wp2
    go_ret
    exact ⟨rfl, unhide HB⟩
end Go.Proofs.Ytagoilabphmdfaa

/-
  What holds on the way of firstWord's search.
-/
namespace Go.Proofs.Ytagoilabphmdfaa
open Go.RowKit Go.Maps

def pcl (p : Int × Int) : List Value := [.int .i64 p.1, .int .i64 p.2]
theorem pcl_len (p : Int × Int) : (pcl p).length = 2 := rfl
theorem ePair : EltG 114 122 (.agg #[.int .i64 0, .int .i64 0]) 2 16 pcl := ⟨Try.underlying122, by kernel_rfl, rfl, by decide, pcl_len, fun x u hu => by
  simp [pcl] at hu
  rcases hu with rfl | rfl <;> rfl⟩

structure FI (m : Mc) (n k : Nat) (p0 : Int × Int) (w1 wx : World) (gm gb : Nat) (vq : Value) (i x : Nat) (S : List (Int × Int)) (V : List (List Int)) (U : List ((Int × Int) × Int)) (g rt dp : Nat → Nat) : Prop where
  inv : TiI m k p0 i x S V U
  nt : ∀ j y, (j < i ∧ y < k ∨ j = i ∧ y < x) → j < S.length → ¬ tl1 m m (S.getD j (0, 0)) y
  uf : UF n g rt dp
  th : TH n rt S
  ow : OwT wx w1.heap.size gb n n g
  mp : UMap wx gm S.length S U
  q : OwnG 114 2 pcl wx w1.heap.size vq S
  gmB : w1.heap.size ≤ gm
  ne : gm ≠ gb
  qm : ∀ b, vq.ownBlock = some b → b ≠ gm ∧ b ≠ gb
  bl : Below w1.heap.size w1 wx

section
variable {m : Mc} {n k : Nat} {p0 : Int × Int} {w1 wx wy : World} {gm gb : Nat} {vq : Value} {i x : Nat} {S : List (Int × Int)} {V : List (List Int)} {U : List ((Int × Int) × Int)} {g rt dp : Nat → Nat}
theorem FI.on (h : FI m n k p0 w1 wx gm gb vq i x S V U g rt dp) (hb : Below wx.heap.size wx wy) : FI m n k p0 w1 wy gm gb vq i x S V U g rt dp :=
  ⟨h.inv, h.nt, h.uf, h.th, h.ow.below hb, h.mp.below hb, h.q.below hb, h.gmB, h.ne, h.qm, h.bl.trans (hb.mono h.bl.size)⟩
theorem FI.row (h : FI m n k p0 w1 wx gm gb vq i x S V U g rt dp) (hi : i < S.length) (hx : ¬ x < k) : FI m n k p0 w1 wx gm gb vq (i + 1) 0 S V U g rt dp := by
  have := h.inv.xl
  exact ⟨h.inv.row hi hx, fun j y hc hj => h.nt j y (by omega) hj, h.uf, h.th, h.ow, h.mp, h.q, h.gmB, h.ne, h.qm, h.bl⟩
theorem FI.rng (h : FI m n k p0 w1 wx gm gb vq i x S V U g rt dp) (R : Right m) (hk : m.k = (k : Int)) (h0 : InP m m p0) : ∀ p, p < S.length → InP m m (S.getD p (0, 0)) :=
  h.inv.all (G := InP m m) h0 fun p y hp hy => stp_in R R rfl hp (by omega)
theorem FI.fit (h : FI m n k p0 w1 wx gm gb vq i x S V U g rt dp) (R : Right m) (hk : m.k = (k : Int)) (h0 : InP m m p0) : ∀ p, p < S.length → FitP (S.getD p (0, 0)) := fun p hp => by
  have h1 := h.rng R hk h0 p hp
  have h2 := R.n1
  exact ⟨⟨h1.1.1, by have := h1.1.2; omega⟩, h1.2.1, by have := h1.2.2; omega⟩
theorem FI.size (h : FI m n k p0 w1 wx gm gb vq i x S V U g rt dp) (R : Right m) (hk : m.k = (k : Int)) (h0 : InP m m p0) : S.length ≤ 1048576 := by
  have n0 := R.n0
  have n1 := R.n1
  have hM2 : m.n * m.n ≤ 1024 * 1024 := Int.mul_le_mul n1 n1 (by omega) (by omega)
  exact h.inv.size (M := 1048576) (cdD m) (fun p hp => by have := cdD_rng (h.rng R hk h0 p hp); omega) fun p q hp hq e => cdD_inj (h.rng R hk h0 p hp) (h.rng R hk h0 q hq) e
/-- A pair whose states are held together is left out. -/
theorem FI.old (h : FI m n k p0 w1 wx gm gb vq i x S V U g rt dp) (hi : i < S.length) (hx : x < k) (hn : ¬ tl1 m m (S.getD i (0, 0)) x) {u v : Nat} (hN : stp m m (S.getD i (0, 0)) (x : Int) = ((u : Int), (v : Int))) (hu : u < n) (hv : v < n) (e : rt u = rt v)
    {g' : Nat → Nat} (uf : UF n g' (mrgR rt u v) (mrgD rt dp u v)) (ow : OwT wy w1.heap.size gb n n g') (bx : Bx (fun k => k = gb) wx wy) : FI m n k p0 w1 wy gm gb vq i (x + 1) S V U g' (mrgR rt u v) (mrgD rt dp u v) := by
  refine ⟨h.inv.old hi hx ?_, fun j y hc hj => ?_, uf, h.th.same e, ow, h.mp.keep (bx.block _ h.mp.lt h.ne), h.q.keep fun b eb => bx.block b (h.q.lt eb).2 (h.qm b eb).2, h.gmB, h.ne, h.qm, h.bl.trans (bx.below (fun k e => by subst e; exact h.ow.lt.1) h.bl.size)⟩
  · rw [hN]; exact h.th.snd u v hu hv e
  · by_cases c : j = i ∧ y = x
    · obtain ⟨rfl, rfl⟩ := c; exact hn
    · exact h.nt j y (by omega) hj
/-- One whose states are not yet held together is new. -/
theorem FI.fresh (h : FI m n k p0 w1 wx gm gb vq i x S V U g rt dp) {u v : Nat} (e : rt u ≠ rt v) : ¬ ((u : Int), (v : Int)) ∈ S := fun c => e (h.th.cmp u v c)
theorem FI.new (h : FI m n k p0 w1 wx gm gb vq i x S V U g rt dp) (hi : i < S.length) (hx : x < k) (hn : ¬ tl1 m m (S.getD i (0, 0)) x) {u v : Nat} (hN : stp m m (S.getD i (0, 0)) (x : Int) = ((u : Int), (v : Int))) (hu : u < n) (hv : v < n) (e : rt u ≠ rt v)
    {g' : Nat → Nat} (uf : UF n g' (mrgR rt u v) (mrgD rt dp u v)) {vq' : Value} (ow : OwT wy w1.heap.size gb n n g') (mp : UMap wy gm (S.length + 1) (S ++ [((u : Int), (v : Int))]) (U ++ [(S.getD i (0, 0), (x : Int))])) (q : OwnG 114 2 pcl wy w1.heap.size vq' (S ++ [((u : Int), (v : Int))])) (qm : ∀ b, vq'.ownBlock = some b → b ≠ gm ∧ b ≠ gb) (bl : Below w1.heap.size w1 wy) :
    FI m n k p0 w1 wy gm gb vq' i (x + 1) (S ++ [((u : Int), (v : Int))]) (V ++ [V.getD i [] ++ [(x : Int)]]) (U ++ [(S.getD i (0, 0), (x : Int))]) g' (mrgR rt u v) (mrgD rt dp u v) := by
  have hi1 := h.inv.new hi hx (by rw [hN]; exact h.fresh e)
  rw [hN] at hi1
  refine ⟨hi1, fun j y hc hj => ?_, uf, h.th.tie hu hv, ow, by rw [List.length_append]; exact mp, q, h.gmB, h.ne, qm, bl⟩
  have hj' : j < S.length := by omega
  rw [gd_left _ hj']
  by_cases c : j = i ∧ y = x
  · obtain ⟨rfl, rfl⟩ := c; exact hn
  · exact h.nt j y (by omega) hj'
end
end Go.Proofs.Ytagoilabphmdfaa
