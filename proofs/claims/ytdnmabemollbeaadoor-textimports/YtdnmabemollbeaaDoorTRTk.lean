/-
  The reference's take: pieces one by one.
-/
import Derived.Test.YtdnmabemollbeaaDoorTRWd
import Derived.Test.YtdnmabemollbeaaDoorK3
namespace Go.Proofs.YtdnmabemollbeaaDoor
open Go.RowKit

/-- A piece, as the reference holds it. -/
def pS : Pc → List UInt8
  | .tx s => s
  | .nm _ _ _ => []
def pL : Pc → Int
  | .tx _ => 0
  | .nm lo _ _ => lo
def pH : Pc → Int
  | .tx _ => 0
  | .nm _ hi _ => hi
def pE : Pc → Int
  | .tx _ => 0
  | .nm _ _ e => e
/-- Texts are none that is empty, none that is long. -/
def Pok (ps : List Pc) : Prop := ∀ s, Pc.tx s ∈ ps → 0 < s.length ∧ s.length ≤ 100
/-- The row of pieces in block g. -/
def PRow (w : World) (g : Nat) (ps : List Pc) : Prop := ∀ t, t < ps.length →
  w.cell? ⟨g, t * 4, none⟩ = some (.string ⟨(pS (ps.getD t (.tx []))).toArray⟩) ∧ w.cell? ⟨g, t * 4 + 1, none⟩ = some (.int .i64 (pL (ps.getD t (.tx [])))) ∧ w.cell? ⟨g, t * 4 + 2, none⟩ = some (.int .i64 (pH (ps.getD t (.tx [])))) ∧ w.cell? ⟨g, t * 4 + 3, none⟩ = some (.int .i64 (pE (ps.getD t (.tx []))))
theorem PRow.below {w w' : World} {g : Nat} {ps : List Pc} (h : PRow w g ps) (hb : Below w.heap.size w w') : PRow w' g ps := fun t ht => by
  obtain ⟨h0, h1, h2, h3⟩ := h t ht
  have hl := World.block_lt_of_cell? w _ h0
  exact ⟨by rw [hb.cell (by exact hl)]; exact h0, by rw [hb.cell (by exact hl)]; exact h1, by rw [hb.cell (by exact hl)]; exact h2, by rw [hb.cell (by exact hl)]; exact h3⟩
/-- What take tells. -/
def TkPost (w w' : World) (e : Ending) : Except (Nat × Int) (List (Int × Int) × Nat) → Prop
  | .error x => e = .returned (.tuple #[.slice none 0 0, .int .i64 (x.1 : Int), .int .i64 x.2]) ∧ Below w.heap.size w w'
  | .ok x => ∃ v, e = .returned (.tuple #[v, .int .i64 (x.2 : Int), .int .i64 0]) ∧ OwnL .i64 3 w' w.heap.size v (x.1.map (·.2)) ∧ Below w.heap.size w w'

set_option maxRecDepth 100000 in
set_option maxHeartbeats 4000000 in
theorem take_any (a : Option Addr) (c : Nat) (b : List UInt8) (i0 : Nat) (g cp : Nat) (ps : List Pc) (w : World) (hr : RdL .u8 w a (zs b)) (hb : b.length ≤ 20000000) (hi0 : i0 ≤ b.length) (hp : PRow w g ps) (hok : Pok ps) (hn : ps.length ≤ 100000) :
    Calls Tryd.prog 36 #[.slice a b.length c, .int .i64 (i0 : Int), .slice (some ⟨g, 0, none⟩) ps.length cp] w fun e w' => TkPost w w' e (tk b i0 ps) := by
  go_enter Tryd.func36, Tryd.ntmps36
  go_wp2
  go_loopw [1, 9, 10] (fun at' v i wr => ∃ (t j : Nat) (l : List (Int × Int)), t ≤ ps.length ∧ i = .int .i64 (t : Int) ∧ at' = .int .i64 (j : Int) ∧ j ≤ b.length ∧ l.length ≤ t ∧ Hid (tk b i0 ps = pre l (tk b j (ps.drop t))) ∧ OwnL .i64 3 wr w.heap.size v (l.map (·.2)) ∧ Below w.heap.size w wr) (fun _ _ i _ => ps.length - (intOf i).toNat)
  case atStart => exact ⟨0, i0, [], Nat.zero_le _, rfl, rfl, hi0, Nat.zero_le _, hide (by rw [pre_nil]; rfl), OwnL.nil _ _ _ _, Below.refl _ _⟩
  case round =>
    obtain ⟨t, j, l, ht, rfl, rfl, hj, hlt', HT, hO, hB⟩ := hrel
    by_cases htl : t < ps.length
    · have htl' : (t : Int) < (ps.length : Int) := by omega
      obtain ⟨c0, c1, c2, c3⟩ := (hp.below hB) t htl
      have hdr : ps.drop t = ps.getD t (.tx []) :: ps.drop (t + 1) := by rw [List.drop_eq_getElem_cons htl]; simp [htl]
      have hmem : ps.getD t (.tx []) ∈ ps := by simp [htl]
      rw [hdr] at HT
      cases hP : ps.getD t (.tx []) with
      | tx s =>
        rw [hP] at c0 c1 c2 c3 HT hmem
        obtain ⟨hs0, hs1⟩ := hok s hmem
        have hsz : (⟨s.toArray⟩ : ByteArray).size = s.length := by simp [ByteArray.size]
        change wr.cell? ⟨g, t * 4, none⟩ = some (.string ⟨s.toArray⟩) at c0
        have hw := word_any a c b j s wr (hr.below hB) hs1 (by omega) hj
        have hs0' : (0 : Int) < (s.length : Int) := by omega
        clear hdr hmem hP c1 c2 c3
        cases hk : skp b j s with
        | error p =>
          rw [tk_tx_bad hk] at HT
          rw [hk, show wdV (.error p) = (-1, (p : Int)) from rfl] at hw
          go_wp2_with fail
          refine hw.mono ?_
          rintro e w2 ⟨rfl, hb2⟩
          go_wp2
          go_ret3
          rw [unhide HT]
          exact ⟨rfl, bstep hB hb2⟩
        | ok q =>
          rw [tk_tx hk] at HT
          rw [hk, show wdV (.ok q) = ((q : Int), 0) from rfl] at hw
          have hq := (skp_le hj hk).2
          have hq0 : (0 : Int) ≤ (q : Int) := by omega
          go_wp2_with fail
          refine hw.mono ?_
          rintro e w2 ⟨rfl, hb2⟩
          have HO2 := hO.grown hb2
          have HB2 := bstep hB hb2
          go_wp2
          go_roundw
          case rel => exact ⟨t + 1, q, l, by omega, by go_num, by go_num, hq, by omega, HT, HO2, HB2⟩
          case measure => simp [intOf]; omega
      | nm lo hi er =>
        rw [hP] at c0 c1 c2 c3 HT
        have hsz : (⟨#[]⟩ : ByteArray).size = 0 := rfl
        change wr.cell? ⟨g, t * 4, none⟩ = some (.string ⟨#[]⟩) at c0
        change wr.cell? ⟨g, t * 4 + 1, none⟩ = some (.int .i64 lo) at c1
        change wr.cell? ⟨g, t * 4 + 2, none⟩ = some (.int .i64 hi) at c2
        change wr.cell? ⟨g, t * 4 + 3, none⟩ = some (.int .i64 er) at c3
        have hnu := rnumber_any a c b (j : Int) wr (hr.below hB) (by omega)
        rw [nmV_at hj] at hnu
        clear hdr hmem hP
        have hnl := numV_le hj
        by_cases h0 : (numV b j).2.2 = 0
        · by_cases h1 : ((numV b j).1 : Int) < lo ∨ hi < ((numV b j).1 : Int)
          · rw [tk_nm_out h0 h1] at HT
            rw [h0] at hnu
            generalize (numV b j).1 = nn at *
            generalize (numV b j).2.1 = qq at *
            have h2 : ¬ ((nn : Int) < lo) → hi < (nn : Int) := by omega
            go_wp2_with fail
            refine hnu.mono ?_
            rintro e wz ⟨rfl, hwz⟩
            subst wz
            go_wp2
            all_goals
              go_quiet (fail)
              go_wp2
              go_ret3
              rw [unhide HT]
              exact ⟨rfl, below_drewN hB _⟩
          · rw [tk_nm h0 (by omega) (by omega)] at HT
            rw [h0] at hnu
            generalize (numV b j).1 = nn at *
            generalize (numV b j).2.1 = qq at *
            have h2 : ¬ ((nn : Int) < lo) := by omega
            have h3 : ¬ (hi < (nn : Int)) := by omega
            go_wp2_with fail
            refine hnu.mono ?_
            rintro e wz ⟨rfl, hwz⟩
            subst wz
            have hsB := hB.size
            have hll : (l.map (·.2)).length = l.length := by simp
            have hmx : ((l.map (·.2)).length + [(nn : Int)].length) * 8 ≤ 140737488355328 := by rw [hll]; simp only [List.length_cons, List.length_nil]; omega
            go_wp2_with (at_builtin; refine wpl_pushL eInt rfl (.tmp 77) (.tmp 79) rfl w.heap.size _ (l.map (·.2)) rfl (hO.alloc _) (some ⟨wr.heap.size, 0, none⟩) 1 [(nn : Int)] rfl (RdL.one _ _) (by intro h; cases h) hmx (by rw [World.size_alloc]; omega) ?_; intro v3 w3 ho3 hb3 _)
            go_roundw
            case rel => exact ⟨t + 1, qq, l ++ [(er, (nn : Int))], by omega, by go_num, by go_num, by omega, by simp; omega, hide (by rw [unhide HT, pre_pre]), by rw [List.map_append]; exact ho3, (hB.alloc hsB _).trans hb3⟩
            case measure => simp [intOf]; omega
        · rw [tk_nm_form h0] at HT
          generalize (numV b j).1 = nn at *
          generalize (numV b j).2.1 = qq at *
          generalize (numV b j).2.2 = rr at *
          go_wp2_with fail
          refine hnu.mono ?_
          rintro e wz ⟨rfl, hwz⟩
          subst wz
          go_wp2
          go_ret3
          rw [unhide HT]
          exact ⟨rfl, hB⟩
    · have HE := unhide HT
      rw [List.drop_eq_nil_of_le (by omega)] at HE
      have HE2 := hide HE
      clear HE
      have hge : ¬ ((t : Int) < (ps.length : Int)) := by omega
      go_wp2
      go_ret3
      rw [unhide HE2]
      exact ⟨_, rfl, by simpa [tk, pre] using hO, hB⟩

end Go.Proofs.YtdnmabemollbeaaDoor
