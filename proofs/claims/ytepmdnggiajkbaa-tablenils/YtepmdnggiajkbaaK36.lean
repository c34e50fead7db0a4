/-
  Some texts of this seat, one behind the other.
-/
import Derived.Test.YtepmdnggiajkbaaK34
import Derived.Test.YtepmdnggiajkbaaK35
import Derived.Test.YtepmdnggiajkbaaTQuiet
/-
  slices.BinarySearchFunc at a list of places, by what a function says of each.
-/
namespace Go.Proofs.Ytepmdnggiajkbaa
open Go.RowKit

/-- What the search leaves. -/
def BsPost (n : Nat) (cf : Nat → Int) (w : World) (e : Ending) (w' : World) : Prop :=
  ∃ (k : Nat) (b : Bool), e = .returned (.tuple #[.int .i64 (k : Int), .bool b]) ∧ k ≤ n ∧ (∀ i, i < k → cf i < 0) ∧ (∀ i, k ≤ i → i < n → 0 ≤ cf i) ∧ Below w.heap.size w w'
set_option maxRecDepth 100000 in
set_option maxHeartbeats 4000000 in
theorem bsf_any (go co bx : Nat) (l : List Nat) (tv : ByteArray) (cf : Nat → Int) (w : World) (hn : l.length ≤ 100000) (hgo : go < w.heap.size)
    (hr : ∀ i, i < l.length → w.cell? ⟨go, i, none⟩ = some (.int .i64 ((l.getD i 0 : Nat) : Int)))
    (hm : ∀ i j, i ≤ j → j < l.length → cf j < 0 → cf i < 0)
    (hc : ∀ X, Below w.heap.size w X → ∀ i, i < l.length → Calls Try.prog 58 #[.int .i64 ((l.getD i 0 : Nat) : Int), .string tv, .pointer (some ⟨bx, 0, none⟩)] X fun e w' => e = .returned (.int .i64 (cf i)) ∧ Below X.heap.size X w') :
    Calls Try.prog 56 #[.slice (some ⟨go, 0, none⟩) l.length co, .string tv, .func (.func 58) #[] #[.pointer (some ⟨bx, 0, none⟩)]] w (BsPost l.length cf w) := by
  have HR := hide hr
  have HM := hide hm
  have HC := hide hc
  clear hr hm hc
  go_enter Try.func56, Try.ntmps56
  go_wp2
  go_loopw [9, 10] (fun a b wr => ∃ lo hi : Nat, a = .int .i64 (lo : Int) ∧ b = .int .i64 (hi : Int) ∧ lo ≤ hi ∧ hi ≤ l.length ∧ Hid (∀ i, i < lo → cf i < 0) ∧ Hid (∀ i, hi ≤ i → i < l.length → 0 ≤ cf i) ∧ Below w.heap.size w wr) (fun a b _ => (intOf b).toNat - (intOf a).toNat)
  case atStart => exact ⟨0, l.length, rfl, rfl, Nat.zero_le _, Nat.le_refl _, hide (fun i hi => by omega), hide (fun i h1 h2 => by omega), Below.refl _ _⟩
  case round =>
    obtain ⟨lo, hi, rfl, rfl, hlh, hin, HL, HU, hB⟩ := hrel
    by_cases hlt : lo < hi
    · have hmid : (lo + hi) / 2 < l.length := by omega
      have c0 := (hB.cell (p := ⟨go, (lo + hi) / 2, none⟩) hgo).trans (unhide HR _ hmid)
      have hcl := unhide HC wr hB _ hmid
      have hmid' : ((lo : Int) + (hi : Int)) / 2 < (l.length : Int) := by omega
      have hlt' : (lo : Int) < (hi : Int) := by omega
      generalize l.getD ((lo + hi) / 2) 0 = P at *
      by_cases hneg : cf ((lo + hi) / 2) < 0
      · have HL2 : Hid (∀ i, i < (lo + hi) / 2 + 1 → cf i < 0) := hide fun i hi' => unhide HM i _ (by omega) hmid hneg
        generalize cf ((lo + hi) / 2) = z at *
        go_wp2_with (go_at_call 58; refine hcl.mono ?_; rintro e w1 ⟨rfl, hb1⟩)
        go_roundw
        case rel => exact ⟨(lo + hi) / 2 + 1, hi, by first | rfl | (congr 1; omega) | go_num, rfl, by omega, hin, HL2, HU, bstep hB hb1⟩
        case measure => simp [intOf]; omega
      · have HU2 : Hid (∀ i, (lo + hi) / 2 ≤ i → i < l.length → 0 ≤ cf i) := hide fun i h1 h2 => by
          rcases Int.lt_or_le (cf i) 0 with c | c
          · exact absurd (unhide HM _ _ h1 h2 c) hneg
          · exact c
        generalize cf ((lo + hi) / 2) = z at *
        go_wp2_with (go_at_call 58; refine hcl.mono ?_; rintro e w1 ⟨rfl, hb1⟩)
        go_roundw
        case rel => exact ⟨lo, (lo + hi) / 2, rfl, by first | rfl | (congr 1; omega) | go_num, by omega, by omega, HL, HU2, bstep hB hb1⟩
        case measure => simp [intOf]; omega
    · obtain rfl : hi = lo := by omega
      have HP : Hid (∀ b w', Below w.heap.size w w' → BsPost l.length cf w (.returned (.tuple #[.int .i64 (hi : Int), .bool b])) w') := hide fun b w' h => ⟨hi, b, rfl, hin, unhide HL, unhide HU, h⟩
      by_cases hlast : hi < l.length
      · have c0 := (hB.cell (p := ⟨go, hi, none⟩) hgo).trans (unhide HR _ hlast)
        have hcl := unhide HC wr hB _ hlast
        have hlast' : (hi : Int) < (l.length : Int) := by omega
        generalize l.getD hi 0 = P at *
        generalize cf hi = z at *
        go_wp2_with (go_at_call 58; refine hcl.mono ?_; rintro e w1 ⟨rfl, hb1⟩; have hBB := bstep hB hb1)
        go_ret2
        exact unhide HP _ _ hBB
      · have hlast' : ¬ (hi : Int) < (l.length : Int) := by omega
        go_wp2
        go_ret2
        exact unhide HP _ _ hB

end Go.Proofs.Ytepmdnggiajkbaa

/-
  The program's table: the first edge whose class no row has.
-/
namespace Go.Proofs.Ytepmdnggiajkbaa
open Go.RowKit

/-- How many rows have this class. -/
def cnR (s : Ts) (n x : Nat) : Nat := ((List.range n).filter fun j => (s.ln (s.rw j)).cl == x).length
theorem cnR_succ (s : Ts) (n x : Nat) : cnR s (n + 1) x = cnR s n x + (if (s.ln (s.rw n)).cl = x then 1 else 0) := by
  unfold cnR
  rw [List.range_succ, List.filter_append, List.length_append]
  congr 1
  by_cases h : (s.ln (s.rw n)).cl = x
  · simp [h]
  · simp [h]
theorem cnR_le (s : Ts) (n x : Nat) : cnR s n x ≤ n := by
  unfold cnR
  exact Nat.le_trans (List.length_filter_le _ _) (by simp)
def heF (s : Ts) (n : Nat) (x : Nat) : Option Value := if cnR s n x = 0 then none else some (.int .i64 (cnR s n x : Nat))
theorem heF_zero (s : Ts) : heF s 0 = fun _ => none := by funext x; unfold heF cnR; simp
theorem heF_get (s : Ts) (n x : Nat) : (heF s n x).getD (.int .i64 0) = .int .i64 (cnR s n x : Nat) := by
  unfold heF
  by_cases h : cnR s n x = 0
  · rw [if_pos h, h]; rfl
  · rw [if_neg h]; rfl
theorem heF_succ (s : Ts) (n : Nat) : (fun y => if y = (s.ln (s.rw n)).cl then some (Value.int .i64 ((cnR s n (s.ln (s.rw n)).cl : Nat) + 1 : Int)) else heF s n y) = heF s (n + 1) := by
  funext y
  unfold heF
  rw [cnR_succ]
  by_cases h : y = (s.ln (s.rw n)).cl
  · subst h
    rw [if_pos rfl, if_pos rfl, if_neg (by omega)]
    rfl
  · have e : (if (s.ln (s.rw n)).cl = y then 1 else 0) = 0 := if_neg (fun e => h e.symm)
    rw [e, Nat.add_zero, if_neg h]
theorem cnR_pos (s : Ts) (n x : Nat) : cnR s n x = 0 ↔ ∀ j, j < n → (s.ln (s.rw j)).cl ≠ x := by
  unfold cnR
  rw [List.length_eq_zero_iff, List.filter_eq_nil_iff]
  constructor
  · intro h j hj; simpa using h j (List.mem_range.2 hj)
  · intro h j hj; simpa using h j (List.mem_range.1 hj)
/-- m[x] = v, at the operation. -/
theorem wpl_fput {K : TypeId} {κ : Type} [DecidableEq κ] {ek : κ → Value} {ok : κ → Prop} (k : Keys K ek ok) {w : World} {ops : Array Oper} {rest : List Oper} {o : Oper} {a : Act} {Q : Exit → Act → World → Prop} (hgd : o.guard = none) (m x v : Operand) (t e : TypeId) (ho : o.op = Op.mapUpdate t m x v)
    (ht : Try.prog.underlying t = some (.map K e)) (b s : Nat) (f : κ → Option Value) (hm : a.eval m = .map (some b)) (hown : FMap K ek ok w b s f) (hs : s < maxLen) (key : κ) (u : Value) (hx : a.eval x = ek key) (hv : a.eval v = u) (hk : ok key)
    (h : ∀ w', FMap K ek ok w' b (if (f key).isSome = true then s else s + 1) (fun y => if y = key then some u else f y) → w.mapTurned w' b → wpList Try.prog ops Q rest (a.put o.dst undef) w') : wpList Try.prog ops Q (o :: rest) a w := by
  refine wpList_plain hgd fun K' hK' => ?_
  obtain ⟨w', hr, r1, r2⟩ := hown.put k ht hs hk u
  unfold Oper.wp
  simp [execOp, ho, hm, hx, hv, hr, Result.andThen]
  exact hK' _ _ (h w' r1 r2)
section
variable {B : Nat} {w w' : World} {p : Tl} {s : Ts}
/-- Has a row this line's class? -/
def Ts.hel (s : Ts) (q : Nat) : Prop := ∃ j, j < s.rows.length ∧ (s.ln (s.rw j)).cl = (s.ln q).cl
/-- The edges ahead of that one: row by row, symbol by symbol. -/
def Ts.fro (s : Ts) (i x : Nat) : Prop := ∀ j y, j < s.rows.length → y < s.K → (j < i ∨ j = i ∧ y < x) → s.hel (1 + s.K * j + y)
/-- What open leaves. -/
def OnPost (s : Ts) (w : World) (e : Ending) (w' : World) : Prop :=
  ∃ r : Option (Nat × Nat), e = .returned (.tuple #[.int .i64 (((r.map fun z => 1 + s.K * z.1 + z.2).getD 0 : Nat) : Int), .bool r.isSome]) ∧ Below w.heap.size w w' ∧
    (r = none → ∀ i x, i < s.rows.length → x < s.K → s.hel (1 + s.K * i + x)) ∧ ∀ z, r = some z → z.1 < s.rows.length ∧ z.2 < s.K ∧ ¬ s.hel (1 + s.K * z.1 + z.2) ∧ s.fro z.1 z.2
set_option maxRecDepth 100000 in
set_option maxHeartbeats 4000000 in
theorem open_any (h : To B w p s) (V : Vi s) (r1 : 0 < s.rows.length) (hcb : ∀ i, i < s.ls.length → (s.ln i).cl ≤ 100000000) :
    Calls Try.prog 25 #[.pointer (some ⟨p.b, 0, none⟩)] w (OnPost s w) := by
  have hb0 := ballo w (.map #[] 0)
  have HO := hide h
  have HV := hide V
  have HC := hide hcb
  have c5 := (h.below hb0).c5
  obtain ⟨gr, er, -, hcr, -, -, -⟩ := own_at (i := 0) h.rw r1
  have HRW : Hid (∀ w', To B w' p s → ∀ i, i < s.rows.length → w'.cell? ⟨gr, i, none⟩ = some (.int .i64 ((s.rw i : Nat) : Int))) := hide fun w' h' i hi => by
    obtain ⟨g', e', -, -, -, k0, -⟩ := own_at (i := i) h'.rw hi
    rw [er] at e'
    cases e'
    exact k0
  rw [er] at c5
  have HER := hide er
  have hrl := V.rl
  have hlen := h.lnc
  have hl2 := V.len2
  have hM : Hid (FMap 3 (fun x : Nat => .int .i64 (x : Int)) okI (w.alloc (.map #[] 0)) w.heap.size 0 (heF s 0)) := hide (by rw [heF_zero]; exact FMap.made w)
  have HB0 := hide hb0
  clear h V hcb hb0 er
  have hmm := @run_makeMap Try.prog
  go_enter Try.func25, Try.ntmps25
  go_wp2
  go_loopw [16] (fun iv wr => ∃ I n : Nat, iv = .int .i64 (I : Int) ∧ I ≤ s.rows.length ∧ n ≤ I ∧ Hid (FMap 3 (fun x : Nat => .int .i64 (x : Int)) okI wr w.heap.size n (heF s I)) ∧ Hid (Below w.heap.size w wr)) (fun iv _ => s.rows.length - (intOf iv).toNat)
  case atStart => exact ⟨0, 0, rfl, Nat.zero_le _, Nat.le_refl _, hM, HB0⟩
  case round =>
    obtain ⟨I, n, rfl, hI, hn, HM, HB⟩ := hrel
    have hO := (unhide HO).below (unhide HB)
    by_cases hlt : I < s.rows.length
    · have hlt' : (I : Int) < (s.rows.length : Int) := by omega
      have k0 := unhide HRW _ hO I hlt
      have d4 := hO.c4
      have hP := (unhide HV).rwlt hlt
      obtain ⟨-, -, -, l3, -⟩ := hO.lc hP
      have hP' : ((s.rw I : Nat) : Int) < (s.ls.length : Int) := by omega
      have hcc := unhide HC _ hP
      have hF := hide (heF_succ s I)
      have hcn := cnR_le s I (s.ln (s.rw I)).cl
      have hlk := FMap.look1 keysI (unhide HM) Try.underlying91 (Try.zeroValue3 _) (x := (s.ln (s.rw I)).cl) (show okI _ from by unfold okI; omega)
      rw [heF_get] at hlk
      clear hO
      generalize cnR s I (s.ln (s.rw I)).cl = N at *
      generalize (s.ln (s.rw I)).cl = C at *
      generalize s.rw I = P at *
      go_wp2_with (at_mapUpdate; (refine wpl_fput keysI rfl (.tmp 20) (.tmp 28) (.tmp 30) 91 3 rfl Try.underlying91 w.heap.size n (heF s I) rfl (unhide HM) (by unfold maxLen; omega) C (.int .i64 ((N : Int) + 1)) rfl rfl (by unfold okI; omega) ?_; intro w2 r1 r2; have HM2 := hide r1; have HB2 := hide ((unhide HB).grown r2.grown (unhide HB).size (fun k hk => by cases hk; exact Nat.le_refl _)); clear r1 r2))
      go_roundw
      case rel =>
        rw [unhide hF] at HM2
        refine ⟨I + 1, _, by go_num, hlt, ?_, HM2, HB2⟩
        split <;> omega
      case measure => simp [intOf]; omega
    · obtain rfl : I = s.rows.length := by omega
      have d5 := hO.c5
      rw [unhide HER] at d5
      have hgt : ∀ q, q < s.ls.length → ((heF s s.rows.length (s.ln q).cl).getD (.int .i64 0)) = .int .i64 (cnR s s.rows.length (s.ln q).cl : Nat) := fun q _ => heF_get _ _ _
      clear hO c5
      go_wp2
      go_loopw [37] (fun iv wr => ∃ I : Nat, iv = .int .i64 (I : Int) ∧ I ≤ s.rows.length ∧ Hid (s.fro I 0) ∧ Hid (FMap 3 (fun x : Nat => .int .i64 (x : Int)) okI wr w.heap.size n (heF s s.rows.length)) ∧ Hid (Below w.heap.size w wr)) (fun iv _ => s.rows.length - (intOf iv).toNat)
      case atStart => exact ⟨0, rfl, Nat.zero_le _, hide (fun j y _ _ h => by omega), HM, HB⟩
      case round =>
        clear HM HB d5
        obtain ⟨I, rfl, hI, HF, HM, HB⟩ := hrel
        by_cases hlt : I < s.rows.length
        · have hlt' : (I : Int) < (s.rows.length : Int) := by omega
          have hO := (unhide HO).below (unhide HB)
          have k0 := unhide HRW _ hO I hlt
          have d1 := hO.c1
          have hP := (unhide HV).rwlt hlt
          have hed := ((unhide HV).rg I hlt).2
          have HED := hide hed
          have hrwx := hide (rfl : s.rw I = s.rw I)
          clear hO hed
          generalize hPE : s.rw I = P at *
          have HPE := hide hPE
          clear hPE
          go_wp2
          go_loopw [45] (fun iv wr => ∃ X : Nat, iv = .int .i64 (X : Int) ∧ X ≤ s.K ∧ Hid (s.fro I X) ∧ Hid (FMap 3 (fun x : Nat => .int .i64 (x : Int)) okI wr w.heap.size n (heF s s.rows.length)) ∧ Hid (Below w.heap.size w wr)) (fun iv _ => s.K - (intOf iv).toNat)
          case atStart => exact ⟨0, rfl, Nat.zero_le _, HF, HM, HB⟩
          case round =>
            clear HF HM HB d1 k0
            obtain ⟨X, rfl, hX, HF, HM, HB⟩ := hrel
            have hK := (unhide HV).k2
            by_cases hx : X < s.K
            · have hx' : (X : Int) < (s.K : Int) := by omega
              have hO := (unhide HO).below (unhide HB)
              have hq := (unhide HV).edge hlt hx
              have hed := edge_any hO (X : Int) hP (by omega) (by omega) (by rw [unhide HED]; omega)
              have heq : ((s.ln P).ed : Int) + (X : Int) = ((1 + s.K * I + X : Nat) : Int) := by rw [unhide HED]; omega
              rw [heq] at hed
              have d4 := hO.c4
              obtain ⟨-, -, -, l3, -⟩ := hO.lc hq
              have hcc := unhide HC _ hq
              have hcn := cnR_le s s.rows.length (s.ln (1 + s.K * I + X)).cl
              have hlk := FMap.look1 keysI (unhide HM) Try.underlying91 (Try.zeroValue3 _) (x := (s.ln (1 + s.K * I + X)).cl) (show okI _ from by unfold okI; omega)
              rw [heF_get] at hlk
              have HN := hide (cnR_pos s s.rows.length (s.ln (1 + s.K * I + X)).cl)
              have HG : Hid (¬ (cnR s s.rows.length (s.ln (1 + s.K * I + X)).cl = 0) → s.fro I (X + 1)) := hide fun hne j y hj hy h => by
                by_cases e : j = I ∧ y = X
                · obtain ⟨rfl, rfl⟩ := e
                  have := fun q => hne ((cnR_pos s s.rows.length _).2 q)
                  apply Classical.byContradiction
                  intro hh
                  exact this fun j hj e => hh ⟨j, hj, e⟩
                · exact unhide HF j y hj hy (by omega)
              have HR : Hid (cnR s s.rows.length (s.ln (1 + s.K * I + X)).cl = 0 → ∀ w', Below w.heap.size w w' → OnPost s w (.returned (.tuple #[.int .i64 ((1 + s.K * I + X : Nat) : Int), .bool true])) w') := hide fun h0 w' hb => ⟨some (I, X), rfl, hb, (fun e => by cases e), fun z hz => by
                cases hz
                exact ⟨hlt, hx, fun ⟨j, hj, e⟩ => (cnR_pos s s.rows.length _).1 h0 j hj e, unhide HF⟩⟩
              have hq' : ((1 + s.K * I + X : Nat) : Int) < (s.ls.length : Int) := by omega
              clear hO heq
              generalize cnR s s.rows.length (s.ln (1 + s.K * I + X)).cl = N at *
              generalize (s.ln (1 + s.K * I + X)).cl = C at *
              generalize 1 + s.K * I + X = Q at *
              by_cases h0 : N = 0
              · have HR0 := hide (unhide HR h0)
                have t0 : ((N : Int) == 0) = true := by simp [h0]
                clear HR HG h0
                go_wp2_with (go_at_call 49; refine hed.mono ?_; rintro e w1 ⟨rfl, hw1⟩; subst hw1)
                go_ret2
                exact unhide HR0 _ (unhide HB)
              · have HG0 := hide (unhide HG h0)
                have t0 : ((N : Int) == 0) = false := by simp [h0]
                clear HR HG h0
                go_wp2_with (go_at_call 49; refine hed.mono ?_; rintro e w1 ⟨rfl, hw1⟩; subst hw1)
                go_roundw
                case rel => exact ⟨X + 1, by go_num, hx, HG0, HM, HB⟩
                case measure => simp [intOf]; omega
            · obtain rfl : X = s.K := by omega
              have HG0 : Hid (s.fro (I + 1) 0) := hide fun j y hj hy h => unhide HF j y hj hy (by omega)
              go_wp2
              go_roundw
              case rel => exact ⟨I + 1, by go_num, hlt, HG0, HM, HB⟩
              case measure => simp [intOf]; omega
        · obtain rfl : I = s.rows.length := by omega
          have HR : Hid (OnPost s w (.returned (.tuple #[.int .i64 0, .bool false])) wr) := hide ⟨none, rfl, unhide HB, fun _ i x hi hx => unhide HF i x hi hx (by omega), fun z hz => by cases hz⟩
          go_wp2
          go_ret2
          exact unhide HR
end

end Go.Proofs.Ytepmdnggiajkbaa

/-
  The program's table: the cells of a line; how many two lines have in common.
-/
namespace Go.Proofs.Ytepmdnggiajkbaa
open Go.RowKit

theorem eCe : EltG 73 100 (.agg #[.string ⟨#[]⟩]) 1 16 spE :=
  ⟨Try.underlying100, by kernel_rfl, rfl, by decide, fun _ => rfl, fun x u hu => by
    simp only [spE, List.mem_cons, List.not_mem_nil, or_false] at hu
    rcases hu with rfl; rfl⟩
section
variable {B : Nat} {w w' : World} {p : Tl} {s : Ts}
/-- What cellsOf leaves. -/
def CsP (s : Ts) (i n : Nat) (w : World) (e : Ending) (w' : World) : Prop := ∃ v, e = .returned v ∧ OwnG 73 1 spE w' w.heap.size v (s.cst i n) ∧ Below w.heap.size w w'
set_option maxRecDepth 100000 in
set_option maxHeartbeats 4000000 in
theorem cellsOf_any (h : To B w p s) (V : Vi s) {i n : Nat} (hi : i < s.ls.length) (hn : n ≤ s.cols.length) :
    Calls Try.prog 54 #[.pointer (some ⟨p.b, 0, none⟩), .int .i64 (i : Int), .int .i64 (n : Int)] w (CsP s i n w) := by
  have HO := hide h
  have HV := hide V
  have hcl := V.cl
  have hn2 : (n : Int) ≤ 1024 := by omega
  clear h V
  go_enter Try.func54, Try.ntmps54
  go_wp2
  go_loopw [7, 12] (fun v iv wr => ∃ C : Nat, iv = .int .i64 (C : Int) ∧ C ≤ n ∧ Hid (OwnG 73 1 spE wr w.heap.size v (s.cst i C)) ∧ Below w.heap.size w wr) (fun _ iv _ => n - (intOf iv).toNat)
  case atStart => exact ⟨0, rfl, Nat.zero_le _, hide (OwnG.nil _ _), Below.refl _ _⟩
  case round =>
    obtain ⟨C, rfl, hC, HW, hB⟩ := hrel
    by_cases hlt : C < n
    · have hlt' : (C : Int) < (n : Int) := by omega
      have hce := cell_any ((unhide HO).below hB) (unhide HV) hi (c := C) (by omega)
      have HS := hide (s.cst_succ i C)
      have hcl2 : (s.cst i C).length = C := by simp [Ts.cst]
      have HL := hide hcl2
      clear hcl2
      unfold ceV at hce
      generalize (s.cel (s.wd i) (s.co C)).getD [] = x at *
      generalize (s.cel (s.wd i) (s.co C)).isSome = bb at *
      go_wp2_with fail
      refine hce.mono ?_
      rintro e w1 ⟨rfl, hb1⟩
      have hB1 := bstep hB hb1
      have hO1 := hide ((unhide HW).below hb1)
      clear hce
      go_wp2_with (at_builtin; (refine wplG_push eCe rfl (.tmp 22) (.tmp 24) rfl w.heap.size _ (s.cst i C) rfl (((unhide hO1).below (ballo _ _)).below (ballo _ _)) _ 1 x rfl (fun j u hj => by match j, hj with | 0, hj => (cases hj; simp) | _ + 1, hj => cases hj) (by rw [unhide HL]; omega) (by rw [unhide HL]; unfold maxLen; omega) (by have := hB1.size; simp; omega) ?_; intro v' w2 r1 r2 _; have HO2 := hide r1; have HB2 := hide ((balloc (balloc hB1 (.cells #[.string (sp x)] 73)) (.cells #[.string (sp x)] 73)).grown r2 (by have := hB1.size; simp; omega) (fun k hk => ((unhide hO1).lt hk).1)); clear r1 r2))
      go_roundw
      case rel => exact ⟨C + 1, by go_num, hlt, hide (by rw [unhide HS]; exact unhide HO2), unhide HB2⟩
      case measure => simp [intOf]; omega
    · obtain rfl : C = n := by omega
      have HP := hide (show ∀ v, OwnG 73 1 spE wr w.heap.size v (s.cst i C) → CsP s i C w (.returned v) wr from fun v hv => ⟨v, rfl, hv, hB⟩)
      go_wp2
      go_ret
      exact unhide HP _ (unhide HW)
end
/-- How many two lists have in common, ahead of the first in which they differ. -/
def cmnV : List (List Int) → List (List Int) → Nat
  | x :: a, y :: b => if x = y then cmnV a b + 1 else 0
  | _, _ => 0
theorem cmn_at : ∀ {a b : List (List Int)} {k : Nat}, a.length = b.length → (∀ j, j < k → a.getD j [] = b.getD j []) → k < a.length → a.getD k [] ≠ b.getD k [] → cmnV a b = k
  | [], _, k, _, _, hk, _ => by simp at hk
  | _ :: _, [], _, h, _, _, _ => by simp at h
  | x :: a, y :: b, 0, _, _, _, h => by
    have : x ≠ y := by simpa using h
    rw [cmnV, if_neg this]
  | x :: a, y :: b, k + 1, hl, he, hk, h => by
    have e : x = y := by simpa using he 0 (by omega)
    rw [cmnV, if_pos e, cmn_at (by simpa using hl) (fun j hj => by simpa using he (j + 1) (Nat.succ_lt_succ hj)) (by simpa using hk) (by simpa using h)]
theorem cmn_all : ∀ {a b : List (List Int)}, a.length = b.length → (∀ j, j < a.length → a.getD j [] = b.getD j []) → cmnV a b = a.length
  | [], _, _, _ => rfl
  | _ :: _, [], h, _ => by simp at h
  | x :: a, y :: b, hl, he => by
    have e : x = y := by simpa using he 0 (by simp)
    rw [cmnV, if_pos e, cmn_all (by simpa using hl) (fun j hj => by simpa using he (j + 1) (by simpa using hj))]; rfl
/-- Two cells held against each other. -/
theorem neqC (a b : List Int) (ha : Sb a) (hb : Sb b) (w : World) : (binOp .neq 73 (.agg #[.string (sp a)]) (.agg #[.string (sp b)])).run Try.prog w = .ok (.bool (decide (a ≠ b))) w := by
  have hS : Try.prog.underlying 73 = some (.struct (Try.prog.fieldsOf 73)) := by kernel_rfl
  have hp : Try.prog.stoodInHeld 73 = false := by kernel_rfl
  have he : (Op.equalIn (9999 + 1) 73 (.agg #[.string (sp a)]) (.agg #[.string (sp b)])).run Try.prog w = .ok (decide (a = b)) w := by
    rw [run_equalIn_agg w 9999 _ _ _ hS hp]
    have hf : (Try.prog.fieldsOf 73).toList.map (fun f => (f.name, f.type, f.offset)) = [("said", 47, 0)] := by kernel_rfl
    revert hf
    generalize (Try.prog.fieldsOf 73).toList = fs
    intro hf
    obtain ⟨f, rfl⟩ : ∃ f, fs = [f] := List.length_eq_one_iff.1 (by have := congrArg List.length hf; simpa using this)
    simp only [List.map_cons, List.map_nil, List.cons.injEq, Prod.mk.injEq, and_true] at hf
    obtain ⟨h1, h2, h3⟩ := hf
    rw [Op.eqFields, h1, h2, h3]
    have hs : (Op.equalIn (9998 + 1) 47 (.string (sp a)) (.string (sp b))).run Try.prog w = .ok (decide (a = b)) w := by
      rw [run_equalIn_string w 9998 _ _ _ Try.underlying47, sp_beq ha hb]
    rw [show (9999 : Nat) = 9998 + 1 from rfl]
    simp only [Op.eqFields]
    simp [part, hs]
    by_cases h : a = b <;> simp [h]
  rw [run_neq_struct]
  rw [show (10000 : Nat) = 9999 + 1 from rfl, he]
  simp
set_option maxRecDepth 100000 in
set_option maxHeartbeats 4000000 in
theorem common_any (a b : List (List Int)) (B : Nat) (v u : Value) (w : World) (hv : OwnG 73 1 spE w B v a) (hu : OwnG 73 1 spE w B u b) (ha : ∀ x ∈ a, Sb x) (hb : ∀ x ∈ b, Sb x) (hl : a.length = b.length) (h0 : 0 < a.length) (hm : a.length ≤ 100000) :
    Calls Try.prog 72 #[v, u] w fun e w' => e = .returned (.int .i64 (cmnV a b : Nat)) ∧ Below w.heap.size w w' := by
  obtain ⟨g1, c1, rfl, -, -, -, hg1, hc1, -⟩ := hv.pos spE_len [] h0
  obtain ⟨g2, c2, e2, -, -, -, hg2, hc2, -⟩ := hu.pos spE_len [] (by omega)
  rw [← hl] at e2
  subst e2
  have hS : Try.prog.underlying 73 = some (.struct (Try.prog.fieldsOf 73)) := by kernel_rfl
  have hp : Try.prog.stoodInHeld 73 = false := by kernel_rfl
  have hgd : Try.prog.eqGuardType Try.prog.depth 73 = false := by kernel_rfl
  have HA := hide ha
  have HB := hide hb
  have HL := hide hl
  have H1 := hide (fun i (hi : i < a.length) => (by have := hc1 i 0 hi (by omega); rw [Nat.mul_one, Nat.add_zero] at this; exact this : w.cell? ⟨g1, i, none⟩ = some (.string (sp (a.getD i [])))))
  have H2 := hide (fun i (hi : i < a.length) => (by have := hc2 i 0 (by omega) (by omega); rw [Nat.mul_one, Nat.add_zero] at this; exact this : w.cell? ⟨g2, i, none⟩ = some (.string (sp (b.getD i [])))))
  clear hc1 hc2 ha hb hl hv hu
  go_enter Try.func72, Try.ntmps72
  go_wp2
  go_loopw [9] (fun iv wr => ∃ C : Nat, iv = .int .i64 (C : Int) ∧ C ≤ a.length ∧ Hid (∀ j, j < C → a.getD j [] = b.getD j []) ∧ Below w.heap.size w wr) (fun iv _ => a.length - (intOf iv).toNat)
  case atStart => exact ⟨0, rfl, Nat.zero_le _, hide (fun j hj => by omega), Below.refl _ _⟩
  case round =>
    obtain ⟨C, rfl, hC, HE, hB⟩ := hrel
    by_cases hlt : C < a.length
    · have hlt' : (C : Int) < (a.length : Int) := by omega
      have k1 := (hB.cell (p := ⟨g1, C, none⟩) hg1).trans (unhide H1 C hlt)
      have k2 := (hB.cell (p := ⟨g2, C, none⟩) hg2).trans (unhide H2 C hlt)
      have hg2' : g2 < wr.heap.size := by have := hB.size; omega
      have k2' : ∀ U, (wr.alloc U).cell? ⟨g2, C, none⟩ = some (.string (sp (b.getD C []))) := fun U => ((ballo wr U).cell (p := ⟨g2, C, none⟩) hg2').trans k2
      have sa : Sb (a.getD C []) := unhide HA _ (by rw [List.getD_eq_getElem?_getD, List.getElem?_eq_getElem hlt]; exact List.getElem_mem hlt)
      have sb : Sb (b.getD C []) := unhide HB _ (by rw [List.getD_eq_getElem?_getD, List.getElem?_eq_getElem (by rw [← unhide HL]; exact hlt)]; exact List.getElem_mem _)
      have he := fun w2 => neqC _ _ sa sb w2
      by_cases hq : a.getD C [] = b.getD C []
      · replace he : ∀ w2, (binOp .neq 73 (.agg #[.string (sp (a.getD C []))]) (.agg #[.string (sp (b.getD C []))])).run Try.prog w2 = .ok (.bool false) w2 := fun w2 => by rw [he w2, decide_eq_false (fun q => q hq)]
        have HE2 : Hid (∀ j, j < C + 1 → a.getD j [] = b.getD j []) := hide fun j hj => by
          by_cases e : j = C
          · subst e; exact hq
          · exact unhide HE j (by omega)
        clear hq sa sb
        generalize a.getD C [] = x at *
        generalize b.getD C [] = y at *
        go_wp2
        go_quiet (fail)
        go_wp2
        go_roundw
        case rel => exact ⟨C + 1, by go_num, hlt, HE2, below_drewN (balloc hB _) _⟩
        case measure => simp [intOf]; omega
      · replace he : ∀ w2, (binOp .neq 73 (.agg #[.string (sp (a.getD C []))]) (.agg #[.string (sp (b.getD C []))])).run Try.prog w2 = .ok (.bool true) w2 := fun w2 => by rw [he w2, decide_eq_true hq]
        have HR := hide (cmn_at (unhide HL) (unhide HE) hlt hq)
        clear hq sa sb
        generalize a.getD C [] = x at *
        generalize b.getD C [] = y at *
        go_wp2
        go_quiet (fail)
        go_wp2
        go_ret
        exact ⟨by rw [unhide HR]; rfl, below_drewN (balloc hB _) _⟩
    · obtain rfl : C = a.length := by omega
      have HR := hide (cmn_all (unhide HL) (unhide HE))
      go_wp2
      go_ret
      exact ⟨by rw [unhide HR]; rfl, hB⟩

end Go.Proofs.Ytepmdnggiajkbaa

/-
  The program's table stands for the document's: what is seen of it is the same.
-/
namespace Go.Proofs.Ytepmdnggiajkbaa
set_option linter.unusedVariables false

/-- The document's table that the program's stands for. -/
structure Vw (s : Ts) (t : Tb) : Prop where
  kd : t.kind = s.kind
  k : t.k = (s.K : Int)
  o : t.o = s.o
  rows : t.rows = s.rows.map s.wd
  cols : t.cols = s.cols
  f : ∀ w, s.f w = (plcO t.ws w).map fun i => t.os.getD i []
  ln : t.os.length = t.ws.length
  r1 : 0 < s.rows.length
section
variable {s : Ts} {t : Tb}
theorem Vw.to {s' : Ts} (h : Vw s t) (g : Sv s s') : Vw s' t :=
  ⟨by rw [h.kd, g.kind], by rw [h.k, g.K], by rw [h.o, g.o], by rw [h.rows, g.rows]; exact List.map_congr_left fun i _ => (g.wd i).symm, by rw [h.cols, g.cols], fun w => by rw [g.f]; exact h.f w, h.ln, by rw [g.rows]; exact h.r1⟩
theorem Vw.rl (h : Vw s t) : t.rows.length = s.rows.length := by rw [h.rows, List.length_map]
theorem Vw.rw (h : Vw s t) {i : Nat} (hi : i < s.rows.length) : t.rw i = s.wd (s.rw i) := by
  unfold Tb.rw Ts.rw
  rw [h.rows, List.getD_eq_getElem?_getD, List.getElem?_map, List.getElem?_eq_getElem hi, List.getD_eq_getElem?_getD, List.getElem?_eq_getElem hi]; rfl
theorem Vw.co (h : Vw s t) (k : Nat) : t.co k = s.co k := by unfold Tb.co Ts.co; rw [h.cols]
theorem Vw.ws (h : Vw s t) (w : List Int) : w ∈ t.ws ↔ (s.f w).isSome = true := by
  rw [h.f]
  unfold plcO
  by_cases c : w ∈ t.ws
  · rw [if_pos c]; simp [c]
  · rw [if_neg c]; simp [c]
theorem Vw.edge (h : Vw s t) (V : Vi s) {i x : Nat} (hi : i < s.rows.length) (hx : x < s.K) : s.wd (1 + s.K * i + x) = t.rw i ++ [(x : Int)] := by rw [h.rw hi]; exact V.ed i x hi hx
theorem Vw.row_line (h : Vw s t) (V : Vi s) {u : List Int} (hu : u ∈ t.rows) : ∃ i, i < s.rows.length ∧ s.wd (s.rw i) = u ∧ t.rw i = u := by
  obtain ⟨i, hi, e⟩ := List.getElem_of_mem hu
  have hi' : i < s.rows.length := by rw [← h.rl]; exact hi
  refine ⟨i, hi', ?_, by rw [Tb.rw_at hi]; exact e⟩
  rw [← h.rw hi', Tb.rw_at hi]; exact e
theorem mem_edgT {t : Tb} {K : Nat} (hk : t.k = (K : Int)) {u : List Int} : u ∈ edgT t ↔ ∃ i x, i < t.rows.length ∧ x < K ∧ u = t.rw i ++ [((x : Nat) : Int)] := by
  have hK : t.k.toNat = K := by omega
  unfold edgT
  rw [hK, List.mem_flatMap]
  constructor
  · rintro ⟨r, hr, hx⟩
    obtain ⟨i, hi, rfl⟩ := List.getElem_of_mem hr
    obtain ⟨x, hy, rfl⟩ := List.mem_map.1 hx
    exact ⟨i, x, hi, List.mem_range.1 hy, by rw [Tb.rw_at hi]⟩
  · rintro ⟨i, x, hi, hx, rfl⟩
    exact ⟨t.rows[i], List.getElem_mem hi, List.mem_map.2 ⟨x, List.mem_range.2 hx, by rw [Tb.rw_at hi]⟩⟩
/-- Rows and edges are lines. -/
theorem Vw.all (h : Vw s t) (V : Vi s) {u : List Int} : u ∈ allT t ↔ ∃ i, i < s.ls.length ∧ s.wd i = u := by
  unfold allT
  rw [List.mem_append, mem_edgT h.k]
  constructor
  · rintro (hu | ⟨i, x, hi, hx, rfl⟩)
    · obtain ⟨i, hi, e, _⟩ := h.row_line V hu
      exact ⟨s.rw i, V.rwlt hi, e⟩
    · rw [h.rl] at hi
      exact ⟨_, V.edge hi hx, h.edge V hi hx⟩
  · rintro ⟨p, hp, rfl⟩
    rcases Nat.eq_zero_or_pos p with c | c
    · left
      have h0 : s.rw 0 = 0 := by have := (V.rg 0 h.r1).1; omega
      have := h.rw h.r1
      rw [h0] at this
      rw [c, ← this, Tb.rw_at (by rw [h.rl]; exact h.r1)]
      exact List.getElem_mem _
    · right
      have hq : p - 1 < s.K * s.rows.length := by rw [V.len] at hp; omega
      have hi : (p - 1) / s.K < s.rows.length := Nat.div_lt_of_lt_mul hq
      have hx : (p - 1) % s.K < s.K := Nat.mod_lt _ V.k1
      have ep : p = 1 + s.K * ((p - 1) / s.K) + (p - 1) % s.K := by have := Nat.div_add_mod (p - 1) s.K; omega
      refine ⟨_, _, by rw [h.rl]; exact hi, hx, ?_⟩
      rw [← h.edge V hi hx, ← ep]
theorem Vw.known (h : Vw s t) {u e : List Int} : (s.cel u e).isSome = true ↔ ((u ++ e).length ≤ 4096 → u ++ e ∈ t.ws) := by
  rw [h.ws]
  unfold Ts.cel
  rw [List.length_append]
  by_cases c : 4096 < u.length + e.length
  · rw [if_pos c]; exact ⟨fun _ g => by omega, fun _ => rfl⟩
  · rw [if_neg c]
    cases s.f (u ++ e) with
    | none => simp; omega
    | some o => simp
/-- Cells are the same. -/
theorem Vw.cel (h : Vw s t) (V : Vi s) (u e : List Int) : (s.cel u e).getD [] = celV t u e := by
  unfold Ts.cel celV
  have hf := h.f (u ++ e)
  by_cases c : 4096 < u.length + e.length
  · rw [if_pos c]
    cases q : plcO t.ws (u ++ e) with
    | none => rfl
    | some i =>
      rw [q] at hf
      have := (V.fw _ _ hf).1
      rw [List.length_append] at this
      omega
  · rw [if_neg c, hf]
    cases q : plcO t.ws (u ++ e) with
    | none => rfl
    | some i =>
      rw [q] at hf
      show (some (if s.kind = 2 then (t.os.getD i []).drop u.length else t.os.getD i [])).getD [] = if t.kind = 2 then _ else _
      rw [h.kd]
      by_cases k2 : s.kind = 2
      · have := (V.fw _ _ hf).2.2.2.2.1 k2
        rw [List.length_append] at this
        rw [if_pos k2, if_pos k2, this, show u.length + e.length - e.length = u.length by omega]; rfl
      · rw [if_neg k2, if_neg k2]; rfl
theorem Vw.cst (h : Vw s t) (V : Vi s) (i : Nat) : s.cst i s.cols.length = (List.range t.cols.length).map fun k => celV t (s.wd i) (t.co k) := by
  unfold Ts.cst
  rw [h.cols]
  exact List.map_congr_left fun k _ => by rw [h.cel V, h.co]
theorem Vw.cst_iff (h : Vw s t) (V : Vi s) (i j : Nat) : s.cst i s.cols.length = s.cst j s.cols.length ↔ alkT t (s.wd i) (s.wd j) = true := by
  rw [h.cst V, h.cst V, alkT_iff]
  constructor
  · intro e k hk
    have := congrArg (fun l => l[k]?) e
    simpa [hk] using this
  · intro e
    exact List.map_congr_left fun k hk => e k (List.mem_range.1 hk)
theorem Vw.alike (h : Vw s t) (V : Vi s) (H : Hd s) (F : Ful s) {i j : Nat} (hi : i < s.ls.length) (hj : j < s.ls.length) : (s.ln i).cl = (s.ln j).cl ↔ alkT t (s.wd i) (s.wd j) = true := by
  rw [H.alike F hi hj]; exact h.cst_iff V i j
/-- What is missing first. -/
theorem misS_ahd {t : Tb} {acc : Option (List Int)} {w : List Int} : (acc = some w → misS t acc w = acc) := by
  intro h
  unfold misS
  by_cases c : w.length ≤ 4096 ∧ w ∉ t.ws ∧ (acc = none ∨ ahT w (acc.getD []) = true)
  · rw [if_pos c, h]
  · rw [if_neg c]
theorem ahT_iff {a b : List Int} : ahT a b = true ↔ Ahd a b := by
  constructor
  · intro h
    apply Classical.byContradiction
    intro n
    have := ahdL_no n
    rw [show ahdL a b = ahT a b from rfl, h] at this
    cases this
  · exact fun h => ahdL_yes h
/-- The least so far, of those that were looked at. -/
def Lst (t : Tb) (P : List Int → Prop) (r : Option (List Int)) : Prop :=
  (r = none → ∀ w, P w → w.length ≤ 4096 → w ∈ t.ws) ∧ ∀ v, r = some v → P v ∧ v.length ≤ 4096 ∧ v ∉ t.ws ∧ ∀ w, P w → w.length ≤ 4096 → w ∉ t.ws → w = v ∨ Ahd v w
theorem Lst.step {P : List Int → Prop} {r : Option (List Int)} (h : Lst t P r) (w : List Int) : Lst t (fun v => P v ∨ v = w) (misS t r w) := by
  unfold misS
  by_cases c : w.length ≤ 4096 ∧ w ∉ t.ws ∧ (r = none ∨ ahT w (r.getD []) = true)
  · rw [if_pos c]
    refine ⟨(fun e => by cases e), fun v e => ?_⟩
    cases e
    refine ⟨.inr rfl, c.1, c.2.1, fun u hu h1 h2 => ?_⟩
    rcases hu with hu | hu
    · cases r with
      | none => exact absurd (h.1 rfl u hu h1) h2
      | some y =>
        rcases c.2.2 with q | q
        · cases q
        · have q' : Ahd w y := ahT_iff.1 q
          rcases (h.2 y rfl).2.2.2 u hu h1 h2 with z | z
          · rw [z]; exact .inr q'
          · exact .inr (q'.tra z)
    · exact .inl hu
  · rw [if_neg c]
    refine ⟨fun e u hu hl => ?_, fun v e => ?_⟩
    · rcases hu with hu | hu
      · exact h.1 e u hu hl
      · subst hu
        apply Classical.byContradiction
        intro n
        exact c ⟨hl, n, .inl e⟩
    · obtain ⟨g1, g2, g3, g4⟩ := h.2 v e
      refine ⟨.inl g1, g2, g3, fun u hu h1 h2 => ?_⟩
      rcases hu with hu | hu
      · exact g4 u hu h1 h2
      · subst hu
        rcases Ahd.tot u v with z | z | z
        · exact absurd ⟨h1, h2, .inr (by rw [e]; exact ahT_iff.2 z)⟩ c
        · exact .inl z
        · exact .inr z
theorem Lst.row (u : List Int) : ∀ (cs : List (List Int)) {P : List Int → Prop} {r : Option (List Int)}, Lst t P r → Lst t (fun v => P v ∨ ∃ e ∈ cs, v = u ++ e) (misR t r u cs)
  | [], P, r, h => by
    have : (fun v => P v ∨ ∃ e ∈ ([] : List (List Int)), v = u ++ e) = P := by funext v; simp
    rw [this]; exact h
  | c :: cs, P, r, h => by
    have g := Lst.row u cs (h.step (u ++ c))
    have : (fun v => P v ∨ ∃ e ∈ c :: cs, v = u ++ e) = fun v => (P v ∨ v = u ++ c) ∨ ∃ e ∈ cs, v = u ++ e := by funext v; simp [or_assoc]
    rw [this]; exact g
theorem Lst.all : ∀ (us : List (List Int)) {P : List Int → Prop} {r : Option (List Int)}, Lst t P r → Lst t (fun v => P v ∨ ∃ u ∈ us, ∃ e ∈ t.cols, v = u ++ e) (us.foldl (fun acc u => misR t acc u t.cols) r)
  | [], P, r, h => by
    have : (fun v => P v ∨ ∃ u ∈ ([] : List (List Int)), ∃ e ∈ t.cols, v = u ++ e) = P := by funext v; simp
    rw [this]; exact h
  | u :: us, P, r, h => by
    have g := Lst.all us (h.row u t.cols)
    have : (fun v => P v ∨ ∃ x ∈ u :: us, ∃ e ∈ t.cols, v = x ++ e) = fun v => (P v ∨ ∃ e ∈ t.cols, v = u ++ e) ∨ ∃ x ∈ us, ∃ e ∈ t.cols, v = x ++ e := by funext v; simp [or_assoc]
    rw [this]; exact g
theorem misT_least (t : Tb) : Lst t (fun v => ∃ u ∈ allT t, ∃ e ∈ t.cols, v = u ++ e) (misT t) := by
  have h0 : Lst t (fun _ => False) none := ⟨fun _ w hw => hw.elim, fun v e => by cases e⟩
  have := Lst.all (allT t) h0
  have e : (fun v => False ∨ ∃ u ∈ allT t, ∃ e ∈ t.cols, v = u ++ e) = fun v => ∃ u ∈ allT t, ∃ e ∈ t.cols, v = u ++ e := by funext v; simp
  rw [e] at this
  exact this
theorem Lst.one {P : List Int → Prop} {r r' : Option (List Int)} (h : Lst t P r) (g : Lst t P r') : r = r' := by
  cases r with
  | none =>
    cases r' with
    | none => rfl
    | some v =>
      obtain ⟨g1, g2, g3, _⟩ := g.2 v rfl
      exact absurd (h.1 rfl v g1 g2) g3
  | some v =>
    obtain ⟨h1, h2, h3, h4⟩ := h.2 v rfl
    cases r' with
    | none => exact absurd (g.1 rfl v h1 h2) h3
    | some u =>
      obtain ⟨g1, g2, g3, g4⟩ := g.2 u rfl
      rcases h4 u g1 g2 g3 with e | e
      · rw [e]
      · rcases g4 v h1 h2 h3 with e' | e'
        · rw [e']
        · exact absurd (e.tra e') (Ahd.irr _)
theorem Vw.mis (h : Vw s t) (V : Vi s) {r : Option (List Int)} (hm : MinC s s.cols.length r) : misT t = r := by
  refine (misT_least t).one ⟨fun e w hw hl => ?_, fun v e => ?_⟩
  · obtain ⟨u, hu, x, hx, rfl⟩ := hw
    obtain ⟨i, hi, rfl⟩ := (h.all V).1 hu
    rw [h.cols] at hx
    obtain ⟨c, hc, rfl⟩ := List.getElem_of_mem hx
    have := hm.1 e i c hi hc
    unfold Ts.isK at this
    rw [h.known] at this
    have e2 : s.co c = s.cols[c] := by unfold Ts.co; rw [List.getD_eq_getElem?_getD, List.getElem?_eq_getElem hc]; rfl
    rw [e2] at this
    exact this hl
  · obtain ⟨h1, ⟨i, c, hi, hc, rfl, hno⟩, h5⟩ := hm.2 v e
    have key : ∀ i c, i < s.ls.length → c < s.cols.length → (¬ s.isK i c ↔ (s.wd i ++ s.co c).length ≤ 4096 ∧ s.wd i ++ s.co c ∉ t.ws) := fun i c _ _ => by
      unfold Ts.isK
      rw [h.known]
      exact Classical.not_imp
    have hk := (key i c hi hc).1 hno
    refine ⟨⟨s.wd i, (h.all V).2 ⟨i, hi, rfl⟩, s.co c, by rw [h.cols]; exact Vi.co_mem hc, rfl⟩, h1, hk.2, fun w hw hl hnw => ?_⟩
    obtain ⟨u, hu, x, hx, rfl⟩ := hw
    obtain ⟨j, hj, rfl⟩ := (h.all V).1 hu
    rw [h.cols] at hx
    obtain ⟨d, hd, rfl⟩ := List.getElem_of_mem hx
    have e2 : s.co d = s.cols[d] := by unfold Ts.co; rw [List.getD_eq_getElem?_getD, List.getElem?_eq_getElem hd]; rfl
    rw [← e2] at hl hnw ⊢
    exact h5 j d hj hd ((key j d hj hd).2 ⟨hl, hnw⟩)
end

end Go.Proofs.Ytepmdnggiajkbaa
