/-
  Some texts of this seat, one behind the other.
-/
import Derived.DeepKeys4
import Derived.Laws.Cover1
import Derived.Maps.OwnOps
import Derived.Maps.OwnSet
import Derived.Test.YtepmdnggiajkbaaGSet
import Derived.Test.YtepmdnggiajkbaaHSrc
import Derived.Test.YtepmdnggiajkbaaK1
import Derived.Test.YtepmdnggiajkbaaK19
import Derived.Test.YtepmdnggiajkbaaK3
import Derived.Test.YtepmdnggiajkbaaNIs
import Derived.Test.YtepmdnggiajkbaaUStr
/-
  The program's strings: spell, symbol, numbers, compare.
-/
namespace Go.Proofs.Ytepmdnggiajkbaa
open Go.RowKit

/-- make([]T, n). -/
theorem wplL_make {w : World} {ops : Array Oper} {rest : List Oper} {o : Oper} {a : Act} {Q : Exit → Act → World → Prop} {q : IntKind} {t st : TypeId} {k : Nat} (E : Elt q t st k) (hgd : o.guard = none) (l c : Operand) (ho : o.op = Op.makeSlice st l c) (B : Nat) (L C : Int) (n : Nat)
    (hl : a.eval l = .int .i64 L) (hc : a.eval c = .int .i64 C) (hL : L = (n : Int)) (hC : C = (n : Int)) (hbytes : k * n ≤ 140737488355328) (hbase : B ≤ w.heap.size)
    (h : ∀ w', OwnL q t w' B (.slice (some ⟨w.heap.size, 0, none⟩) n n) (List.replicate n 0) → Below B w w' → wpList Try.prog ops Q rest (a.put o.dst (.slice (some ⟨w.heap.size, 0, none⟩) n n)) w') :
    wpList Try.prog ops Q (o :: rest) a w := by
  obtain ⟨i, hi, hz0, hz1, hz2⟩ := info_parts E.info
  have hk := E.pos
  have hlen : n ≤ maxLen := by
    have : 1 * n ≤ k * n := Nat.mul_le_mul_right _ hk
    unfold maxLen; omega
  refine wpList_make_full w hgd l c st ho B t i (.int q 0) 1 E.und hi hz0 hz1 .i64 .i64 L C n hl hc hL hC (by rw [hz2]; omega) hlen hbase ?_
  intro w' h1 h2
  refine h w' ?_ ((Below.refl B w).grown h2 hbase fun k hk => by cases hk)
  unfold OwnL
  have e : (madeCells (Value.int q 0).cells (n * 1)).toList = (List.replicate n (0 : Int)).map (Value.int q) := by
    show (madeCells #[.int q 0] (n * 1)).toList = _
    rw [toList_madeCells_one, Nat.mul_one, List.map_replicate]
  rw [List.length_replicate, ← e]; exact h1
theorem set_takes {l : List Int} {z : Int} {j : Nat} (hj : j < l.length) : (l.take j ++ List.replicate (l.length - j) z).set j (l.getD j 0) = l.take (j + 1) ++ List.replicate (l.length - (j + 1)) z := by
  have e : l.length - j = (l.length - (j + 1)) + 1 := by omega
  have h1 : (l.take j).length = j := by rw [List.length_take]; omega
  rw [List.set_append, if_neg (by omega), h1, Nat.sub_self, e, List.replicate_succ, List.set_cons_zero, List.take_succ_eq_append_getElem hj, List.getD_eq_getElem?_getD, List.getElem?_eq_getElem hj, List.append_assoc]
  rfl
theorem takes_len {l : List Int} {z : Int} {j : Nat} (hj : j ≤ l.length) : (l.take j ++ List.replicate (l.length - j) z).length = l.length := by simp; omega
theorem wrap8 {x : Int} (h0 : 0 ≤ x) (h1 : x < 256) : IntKind.u8.wrap x = x := by
  simp only [IntKind.wrap]
  first | omega | (simp [IntKind.bits, IntKind.signed] ; omega) | simp; omega

/-- spelt(b). -/
theorem conv_spelt {w : World} {B : Nat} {v : Value} {l : List UInt8} (h : OwnL .u8 5 w B v (zs l)) : (convert 107 47 v).run Try.prog w = .ok (.string ⟨l.toArray⟩) w := by
  obtain ⟨a, c, rfl, hnil, hlc, hcm, hrd, hblk⟩ := h.shape
  cases a with
  | none =>
    obtain ⟨h0, rfl⟩ := hnil rfl
    rw [zs_len] at h0
    obtain rfl := List.length_eq_zero_iff.1 h0
    kernel_rfl
  | some ad =>
    rw [zs_len] at *
    refine run_convert_bytes_back w 107 47 5 ad c l Try.underlying107 Try.underlying5 Try.underlying47 fun j hj => ?_
    obtain ⟨b, off, e, hc⟩ := hrd.at (i := j) (by rw [zs_len]; exact hj)
    cases e
    rw [add_at, hc j (by rw [zs_len]; exact hj)]
    simp [zs, hj]
theorem OwnL.storeN {q : IntKind} {t : TypeId} {w : World} {B g n cap : Nat} {L : List Int} (h : OwnL q t w B (.slice (some ⟨g, 0, none⟩) n cap) L) (hn : L.length = n) (j : Nat) (x : Int) :
    OwnL q t (w.setCell ⟨g, j, none⟩ (.int q x)) B (.slice (some ⟨g, 0, none⟩) n cap) (L.set j x) := by subst hn; exact h.store j x
theorem OwnL.cellN {q : IntKind} {t : TypeId} {w : World} {B g n cap : Nat} {L : List Int} (h : OwnL q t w B (.slice (some ⟨g, 0, none⟩) n cap) L) (hn : L.length = n) :
    (∀ i, i < n → w.cell? ⟨g, i, none⟩ = some (.int q (L.getD i 0))) ∧ (∀ i, w.frozen? ⟨g, i, none⟩ = false) ∧ g < w.heap.size ∧ B ≤ g := by
  subst hn
  by_cases h0 : 0 < L.length
  · obtain ⟨g', c', e, _, _, h1, h2, h3, h4⟩ := h.pos h0
    cases e
    exact ⟨h3, h4, h2, h1⟩
  · exact ⟨fun i hi => by omega, fun i => World.ownsRow.frozenAt h i, (h.lt rfl).2, (h.lt rfl).1⟩

set_option maxRecDepth 100000 in
set_option maxHeartbeats 2000000 in
theorem spell_any (a : Option Addr) (c : Nat) (l : List Int) (w : World) (hr : RdL .i64 w a l) (hb : Sb l) (hl : l.length ≤ 1000000000) :
    Calls Try.prog 33 #[.slice a l.length c] w fun e w' => e = .returned (.string (sp l)) ∧ Below w.heap.size w w' := by
  have HR := hide hr
  have HB := hide hb
  have HC := hide fun (w' : World) (v : Value) (h : OwnL .u8 5 w' w.heap.size v l) => conv_spelt (w := w') (B := w.heap.size) (v := v) (l := bts l) (by rw [zs_bts hb]; exact h)
  clear hr hb
  go_enter Try.func33, Try.ntmps33
  go_wp2_with (at_make; refine wplL_make e8 rfl (.tmp 7) (.tmp 7) rfl w.heap.size _ _ l.length rfl rfl rfl rfl (by omega) (Nat.le_refl _) ?_; intro w1 ho1 hb1; have HO := hide ho1; clear ho1)
  go_loopw [11] (fun iv wr => ∃ j : Nat, iv = .int .i64 (j : Int) ∧ j ≤ l.length ∧ Below w.heap.size w wr ∧ Hid (OwnL .u8 5 wr w.heap.size (.slice (some ⟨w.heap.size, 0, none⟩) l.length l.length) (l.take j ++ List.replicate (l.length - j) 0))) (fun iv _ => l.length - (intOf iv).toNat)
  case atStart => exact ⟨0, rfl, Nat.zero_le _, hb1, hide (by simpa using unhide HO)⟩
  case round =>
    obtain ⟨j, rfl, hj, hB, HW⟩ := hrel
    by_cases hlt : j < l.length
    · have hlt' : (j : Int) < (l.length : Int) := by omega
      obtain ⟨h1, h2, h3, h4⟩ := (unhide HW).cellN (takes_len hj)
      obtain ⟨b, off, rfl, hc⟩ := (unhide HR).at hlt
      have c0 := (hB.cell (World.block_lt_of_cell? _ _ (hc j hlt))).trans (hc j hlt)
      have d0 := h1 j hlt
      have f0 := h2 j
      obtain ⟨x0, x1⟩ := (unhide HB).at hlt
      have HS := hide ((unhide HW).storeN (takes_len hj) j (l.getD j 0))
      have HT := hide (set_takes (z := 0) hlt)
      generalize l.getD j 0 = x at *
      generalize (l.take j ++ List.replicate (l.length - j) (0 : Int)).getD j 0 = y at *
      have hwx := wrap8 x0 x1
      clear hc h1 h2
      go_wp2
      go_roundw
      case rel => exact ⟨j + 1, by go_num, by omega, hB.setCell (p := ⟨w.heap.size, j, none⟩) (Nat.le_refl _) _, hide (by rw [← unhide HT]; exact unhide HS)⟩
      case measure => simp [intOf]; omega
    · obtain rfl : j = l.length := by omega
      have hcv := unhide HC wr _ (by simpa using unhide HW)
      go_wp2
      go_ret
      exact ⟨rfl, hB⟩

set_option maxRecDepth 100000 in
theorem symbol_any (x : Int) (w : World) (h0 : 0 ≤ x) (h1 : x < 256) :
    Calls Try.prog 57 #[.int .i64 x] w fun e w' => e = .returned (.string (sp [x])) ∧ Below w.heap.size w w' := by
  have HS := hide fun (w' : World) (t : TypeId) => spell_any (some ⟨w'.heap.size, 0, none⟩) 1 [x] (w'.alloc (.cells #[.int .i64 x] t)) (RdL.one w' x) (Sb.one h0 h1) (by simp)
  go_enter Try.func57, Try.ntmps57
  go_wp2_with (go_at_call 33; refine (unhide HS _ _).mono ?_; rintro e w1 ⟨rfl, hb1⟩)
  go_ret
  exact ⟨rfl, bstep (ballo _ _) hb1⟩

set_option maxRecDepth 100000 in
set_option maxHeartbeats 2000000 in
theorem spnum_any (l : List Int) (w : World) (hb : Sb l) (hl : l.length ≤ 1000000000) :
    Calls Try.prog 23 #[.string (sp l)] w fun e w' => ∃ v, e = .returned v ∧ OwnL .i64 3 w' w.heap.size v l ∧ Below w.heap.size w w' := by
  have hsz := sp_size l
  have HB := hide hb
  generalize hs : sp l = s at *
  have HSp := hide hs
  clear hs hb
  have HZ := hide hsz
  go_enter Try.func23, Try.ntmps23
  go_wp2_with (at_make; refine wplL_make eInt rfl (.tmp 6) (.tmp 6) rfl w.heap.size _ _ l.length rfl rfl (by first | rfl | (rw [← unhide HZ]; rfl) | (simp [unhide HZ]; done)) (by first | rfl | (rw [← unhide HZ]; rfl) | (simp [unhide HZ]; done)) (by omega) (Nat.le_refl _) ?_; intro w1 ho1 hb1; have HO := hide ho1; clear ho1)
  go_loopw [10] (fun iv wr => ∃ j : Nat, iv = .int .i64 (j : Int) ∧ j ≤ l.length ∧ Below w.heap.size w wr ∧ Hid (OwnL .i64 3 wr w.heap.size (.slice (some ⟨w.heap.size, 0, none⟩) l.length l.length) (l.take j ++ List.replicate (l.length - j) 0))) (fun iv _ => l.length - (intOf iv).toNat)
  case atStart => exact ⟨0, rfl, Nat.zero_le _, hb1, hide (by simpa using unhide HO)⟩
  case round =>
    obtain ⟨j, rfl, hj, hB, HW⟩ := hrel
    by_cases hlt : j < l.length
    · have hlt' : (j : Int) < (l.length : Int) := by omega
      obtain ⟨h1, h2, h3, h4⟩ := (unhide HW).cellN (takes_len hj)
      have d0 := h1 j hlt
      have f0 := h2 j
      obtain ⟨x0, x1⟩ := (unhide HB).at hlt
      have HS := hide ((unhide HW).storeN (takes_len hj) j (l.getD j 0))
      have HT := hide (set_takes (z := 0) hlt)
      have hat : ∀ w2 : World, (Instr.index 47 (.string s) (.int .i64 (j : Int))).run Try.prog w2 = .ok (.int .u8 (l.getD j 0)) w2 := fun w2 => by
        have hj2 : j < (sp l).size := by rw [sp_size]; exact hlt
        rw [← unhide HSp, run_index_string (w := w2) (t := 47) (s := sp l) (k := .i64) (i := (j : Int)) Try.underlying47, dif_pos ⟨by omega, by omega⟩]
        simp only [Int.toNat_natCast]
        rw [sp_at (unhide HB) hlt hj2]
      generalize l.getD j 0 = x at *
      generalize (l.take j ++ List.replicate (l.length - j) (0 : Int)).getD j 0 = y at *
      clear h1 h2 HB HO HZ
      go_wp2
      go_roundw
      case rel => exact ⟨j + 1, by go_num, by omega, hB.setCell (p := ⟨w.heap.size, j, none⟩) (Nat.le_refl _) _, hide (by rw [← unhide HT]; exact unhide HS)⟩
      case measure => simp [intOf]; omega
    · obtain rfl : j = l.length := by omega
      go_wp2
      go_ret
      exact ⟨_, rfl, by simpa using unhide HW, hB⟩

theorem isNaNI_any (x : Int) (w : World) : Calls Try.prog 83 #[.int .i64 x] w fun e w' => e = .returned (.bool false) ∧ w' = w := by
  go_enter Try.func83, Try.ntmps83
  go_wp2
  go_ret
  exact ⟨by simp, rfl⟩
theorem isNaNS_any (s : ByteArray) (w : World) : Calls Try.prog 84 #[.string s] w fun e w' => e = .returned (.bool false) ∧ w' = w := by
  go_enter Try.func84, Try.ntmps84
  go_wp2
  go_ret
  exact ⟨by simp, rfl⟩
theorem cmpI_any (x y : Int) (w : World) : Calls Try.prog 70 #[.int .i64 x, .int .i64 y] w fun e w' => e = .returned (.int .i64 (if x < y then -1 else if y < x then 1 else 0)) ∧ w' = w := by
  by_cases h1 : x < y
  · rw [if_pos h1]
    go_enter Try.func70, Try.ntmps70
    go_wp2_with (go_at_call 83; refine (isNaNI_any _ _).mono ?_; rintro e w1 ⟨rfl, hw⟩; subst hw)
    go_ret
    exact ⟨rfl, rfl⟩
  · rw [if_neg h1]
    by_cases h2 : y < x
    · rw [if_pos h2]
      go_enter Try.func70, Try.ntmps70
      go_wp2_with (go_at_call 83; refine (isNaNI_any _ _).mono ?_; rintro e w1 ⟨rfl, hw⟩; subst hw)
      go_ret
      exact ⟨rfl, rfl⟩
    · rw [if_neg h2]
      go_enter Try.func70, Try.ntmps70
      go_wp2_with (go_at_call 83; refine (isNaNI_any _ _).mono ?_; rintro e w1 ⟨rfl, hw⟩; subst hw)
      go_ret
      exact ⟨rfl, rfl⟩
/-- Of two words that are as long. -/
theorem cmpS_any (a b : List Int) (w : World) (ha : Sb a) (hb : Sb b) (hl : a.length = b.length) : Calls Try.prog 71 #[.string (sp a), .string (sp b)] w fun e w' => e = .returned (.int .i64 (cmS a b)) ∧ w' = w := by
  have HL := bl_lex ha hb hl
  have HE := sp_beq ha hb
  rw [← sp_list a, ← sp_list b] at HL
  by_cases h1 : Lex a b
  · have e := HL.2 h1
    rw [cmS_lt (.inr ⟨hl, h1⟩)]
    clear HL HE hl
    go_enter Try.func71, Try.ntmps71
    go_wp2_with (go_at_call 84; refine (isNaNS_any _ _).mono ?_; rintro e w1 ⟨rfl, hw⟩; subst hw)
    go_ret
    exact ⟨rfl, rfl⟩
  · have e : Op.bytesLess (sp a).toList (sp b).toList = false := by
      cases q : Op.bytesLess (sp a).toList (sp b).toList
      · rfl
      · exact absurd (HL.1 q) h1
    by_cases h2 : a = b
    · subst h2
      rw [cmS_eq]
      have e2 : ((sp a).toList == (sp a).toList) = true := by simp
      clear HL HE hl
      go_enter Try.func71, Try.ntmps71
      go_wp2_with (go_at_call 84; refine (isNaNS_any _ _).mono ?_; rintro e w1 ⟨rfl, hw⟩; subst hw)
      go_ret
      exact ⟨rfl, rfl⟩
    · have h3 : Ahd b a := by
        rcases Lex.total hl with g | g | g
        · exact absurd g h1
        · exact absurd g h2
        · exact .inr ⟨hl.symm, g⟩
      rw [cmS_gt h3]
      rw [decide_eq_false h2] at HE
      clear HL hl
      go_enter Try.func71, Try.ntmps71
      go_wp2_with (go_at_call 84; refine (isNaNS_any _ _).mono ?_; rintro e w1 ⟨rfl, hw⟩; subst hw)
      go_ret
      exact ⟨rfl, rfl⟩
/-- compare of two words. -/
theorem spcmp_any (a b : List Int) (w : World) (ha : Sb a) (hb : Sb b) : Calls Try.prog 46 #[.string (sp a), .string (sp b)] w fun e w' => e = .returned (.int .i64 (cmS a b)) ∧ w' = w := by
  have za := sp_size a
  have zb := sp_size b
  by_cases hl : a.length = b.length
  · have hc := cmpS_any a b w ha hb hl
    have e : (((sp a).size : Int) != ((sp b).size : Int)) = false := by rw [za, zb, hl]; simp
    clear hl za zb
    go_enter Try.func46, Try.ntmps46
    go_wp2_with (go_at_call 71; refine hc.mono ?_; rintro e w1 ⟨rfl, hw⟩; subst hw)
    go_ret
    exact ⟨rfl, rfl⟩
  · have hc := cmpI_any ((sp a).size : Int) ((sp b).size : Int) w
    have HV := hide (show (if ((sp a).size : Int) < ((sp b).size : Int) then (-1 : Int) else if ((sp b).size : Int) < ((sp a).size : Int) then 1 else 0) = cmS a b by
      rw [za, zb]
      rcases Nat.lt_or_gt_of_ne hl with c | c
      · rw [if_pos (by omega), cmS_lt (.inl c)]
      · rw [if_neg (by omega), if_pos (by omega), cmS_gt (.inl c)])
    have e : (((sp a).size : Int) != ((sp b).size : Int)) = true := by rw [za, zb]; simp; omega
    rw [unhide HV] at hc
    clear hl za zb HV
    go_enter Try.func46, Try.ntmps46
    go_wp2_with (go_at_call 70; refine hc.mono ?_; rintro e w1 ⟨rfl, hw⟩; subst hw)
    go_ret
    exact ⟨rfl, rfl⟩

end Go.Proofs.Ytepmdnggiajkbaa

/-
  Maps, by what they say of each key: made, asked, written.
-/
namespace Go.Proofs.Ytepmdnggiajkbaa
open Go.RowKit Go.Maps Go.ChangeMaps

/-- An element as it is. -/
def tokR (v : Value) : Option (DataW Value × List MemPlace) := some (.held v, [])
theorem tokR_inj {v u : Value} {ps : List MemPlace} (h : tokR v = some (.held u, ps)) : v = u := by
  unfold tokR at h; injection h with h; injection h with h _; injection h
/-- What the keys are. -/
structure Keys (K : TypeId) {κ : Type} (ek : κ → Value) (ok : κ → Prop) : Prop where
  law : Keyed Try.prog K
  of : ∀ x, ok x → ∃ kl, keyOf Try.prog K (ek x) = some kl
  inj : ∀ x y, ok x → ok y → ek x = ek y → x = y
/-- The map at block b has s entries, and says f. -/
def FMap (K : TypeId) {κ : Type} (ek : κ → Value) (ok : κ → Prop) (w : World) (b s : Nat) (f : κ → Option Value) : Prop :=
  ∃ D : DataW Value, w.ownsMap Try.prog K tokR b s D ∧ Maps.size D = s ∧ ∀ x kl, ok x → keyOf Try.prog K (ek x) = some kl → Maps.has D kl = (f x).isSome ∧ ∀ v z, f x = some v → D.atKey kl z = .held v
section
variable {K : TypeId} {κ : Type} {ek : κ → Value} {ok : κ → Prop} {w w' : World} {b s : Nat} {f : κ → Option Value}
theorem FMap.made (w : World) : FMap K ek ok (w.alloc (.map #[] 0)) w.heap.size 0 (fun _ => none) :=
  ⟨.map [], World.ownsMap_made _ _ _ _, rfl, fun x kl _ _ => ⟨by simp [Maps.has], fun v z h => by cases h⟩⟩
theorem FMap.keep (h : FMap K ek ok w b s f) (e : w'.heap[b]? = w.heap[b]?) : FMap K ek ok w' b s f := by
  obtain ⟨D, ⟨es, clock, hb, r⟩, h2⟩ := h
  exact ⟨D, ⟨es, clock, e.trans hb, r⟩, h2⟩
theorem FMap.lt (h : FMap K ek ok w b s f) : b < w.heap.size := by
  obtain ⟨D, h1, _⟩ := h
  exact h1.lt
theorem FMap.below (h : FMap K ek ok w b s f) (hb : Below w.heap.size w w') : FMap K ek ok w' b s f := h.keep (hb.block b h.lt)
theorem FMap.isMap (h : FMap K ek ok w b s f) : ∃ es c, w.heap[b]? = some (.map es c) := by
  obtain ⟨D, ⟨es, clock, hb, r⟩, h2⟩ := h
  exact ⟨es, clock, hb⟩
theorem FMap.look (k : Keys K ek ok) (h : FMap K ek ok w b s f) {t e : TypeId} (ht : Try.prog.underlying t = some (.map K e)) {z : Value} (hz : (zeroValue e).run Try.prog w = .ok z w) {x : κ} (hx : ok x) :
    (Instr.lookup t (.map (some b)) (ek x) true).run Try.prog w = .ok (.tuple #[(f x).getD z, .bool (f x).isSome]) w := by
  obtain ⟨D, h1, _, h3⟩ := h
  obtain ⟨kl, hk⟩ := k.of x hx
  obtain ⟨a1, a2⟩ := h3 x kl hx hk
  obtain ⟨v, ps, hr, hv⟩ := h1.look_ok k.law ht hz (zd := .held z) (zp := []) rfl hk
  rw [hr, a1]
  cases q : f x with
  | none =>
    rw [q] at a1
    rw [atKey_of_not_has a1] at hv
    rw [tokR_inj hv]; rfl
  | some u =>
    rw [a2 u _ q] at hv
    rw [tokR_inj hv]; rfl
theorem FMap.look1 (k : Keys K ek ok) (h : FMap K ek ok w b s f) {t e : TypeId} (ht : Try.prog.underlying t = some (.map K e)) {z : Value} (hz : (zeroValue e).run Try.prog w = .ok z w) {x : κ} (hx : ok x) :
    (Instr.lookup t (.map (some b)) (ek x) false).run Try.prog w = .ok ((f x).getD z) w := by
  obtain ⟨D, h1, _, h3⟩ := h
  obtain ⟨kl, hk⟩ := k.of x hx
  obtain ⟨a1, a2⟩ := h3 x kl hx hk
  obtain ⟨v, ps, hr, hv⟩ := h1.lookup k.law ht hz (zd := .held z) (zp := []) rfl hk
  rw [hr]
  cases q : f x with
  | none =>
    rw [q] at a1
    rw [atKey_of_not_has a1] at hv
    rw [tokR_inj hv]; rfl
  | some u =>
    rw [a2 u _ q] at hv
    rw [tokR_inj hv]; rfl
theorem FMap.len (h : FMap K ek ok w b s f) {t e : TypeId} (ht : Try.prog.underlying t = some (.map K e)) (ty : TypeId) : (Builtin.len_ #[t] ty #[.map (some b)]).run Try.prog w = .ok (.int .i64 s) w := by
  obtain ⟨D, h1, h2, _⟩ := h
  rw [← h2]
  exact h1.len ht ty
/-- m[x] = v. -/
theorem FMap.put [DecidableEq κ] (k : Keys K ek ok) (h : FMap K ek ok w b s f) {t e : TypeId} (ht : Try.prog.underlying t = some (.map K e)) (hs : s < maxLen) {x : κ} (hx : ok x) (v : Value) :
    ∃ w', (Instr.mapUpdate t (.map (some b)) (ek x) v).run Try.prog w = .ok () w' ∧ FMap K ek ok w' b (if (f x).isSome = true then s else s + 1) (fun y => if y = x then some v else f y) ∧ w.mapTurned w' b := by
  obtain ⟨D, h1, h2, h3⟩ := h
  obtain ⟨kl, hk⟩ := k.of x hx
  obtain ⟨a1, a2⟩ := h3 x kl hx hk
  obtain ⟨w', hr, g1, g2⟩ := h1.store k.law ht hs (val := v) (d := .held v) (ps := []) hk rfl
  have hT := h1.tidy k.law
  have hlit := k.law.key hk
  have hsz : Maps.size (D.put kl (.held v)) = if (f x).isSome = true then s else s + 1 := by rw [size_put hT, a1, h2]
  refine ⟨w', hr, ⟨D.put kl (.held v), ?_, hsz, ?_⟩, g2⟩
  · obtain ⟨es, clock, e1, e2, e3, e4⟩ := g1
    refine ⟨es, clock, e1, e2, ?_, e4⟩
    rw [← hsz, e4]
    show es.size ≤ _
    rw [size_eq, length_read]
    exact Nat.le_refl _
  · intro y kl' hy hk'
    by_cases c : y = x
    · subst c
      have : kl' = kl := Option.some.inj (hk'.symm.trans hk)
      subst this
      refine ⟨by rw [has_put_same hT.isMap hlit]; show true = (if y = y then some v else f y).isSome; rw [if_pos rfl]; rfl, fun u z hu => ?_⟩
      rw [atKey_put_same hT.isMap hlit]
      have hu' : (if y = y then some v else f y) = some u := hu
      rw [if_pos rfl] at hu'
      rw [Option.some.inj hu']
    · have hne : kl' ≠ kl := fun q => by
        subst q
        exact c (k.inj y x hy hx (k.law.inj hk' hk))
      obtain ⟨b1, b2⟩ := h3 y kl' hy hk'
      refine ⟨by rw [has_put_other hne, b1]; show (f y).isSome = (if y = x then some v else f y).isSome; rw [if_neg c], fun u z hu => ?_⟩
      rw [atKey_put_other hne]
      refine b2 u z ?_
      have hu' : (if y = x then some v else f y) = some u := hu
      rwa [if_neg c] at hu'
end
theorem Bx.turned {X : Nat → Prop} {a w w' : World} {b : Nat} (h : Bx X a w) (g : w.mapTurned w' b) (hx : X b) : Bx X a w' := h.grown g.grown (fun k e _ => by cases e; exact hx)

/-- Keys that are strings. -/
def okS (l : List Int) : Prop := Sb l ∧ l.length ≤ 1000000000
theorem keysS : Keys 47 (fun l : List Int => .string (sp l)) okS where
  law := string_keyed Try.underlying47
  of x hx := ⟨_, Go.WideMaps.keyOf_string_mk Try.underlying47 (by rw [sp_size]; have := hx.2; unfold maxLen; omega)⟩
  inj x y hx hy e := by injection e with e; exact sp_inj hx.1 hy.1 e
def okI (x : Nat) : Prop := x ≤ 1000000000
theorem keysI : Keys 3 (fun x : Nat => .int .i64 (x : Int)) okI where
  law := int_keyed Try.underlying3
  of x hx := ⟨_, keyOf_int_mk Try.underlying3 (WalkArith.wf_i64 (by unfold okI at hx; omega))⟩
  inj x y _ _ e := by injection e with _ e; omega
/-- Keys that are steps: a number and a string. -/
def ekP (p : Nat × List Int) : Value := .agg #[.int .i64 (p.1 : Int), .string (sp p.2)]
def okP (p : Nat × List Int) : Prop := p.1 ≤ 1000000000 ∧ okS p.2
theorem keyedP : Keyed Try.prog 90 := Keyed.of_law (deep_law_laid (by kernel_rfl) (m := 3) (by omega) (of_decide_eq_true (by kernel_rfl)) (by kernel_rfl) (by rw [Try.underlying90]))
theorem keysP : Keys 90 ekP okP where
  law := keyedP
  of x hx := by
    have hk : Try.prog.keyType 90 = true := by kernel_rfl
    have c1 : Try.prog.cellsOf 90 = 2 := by kernel_rfl
    have c2 : Try.prog.cellsOf 73 = 1 := by kernel_rfl
    have c3 : Try.prog.cellsOf 3 = 1 := by kernel_rfl
    have c4 : Try.prog.cellsOf 47 = 1 := by kernel_rfl
    have hsz : ∃ d, Try.prog.types.size + 1 = d + 1 + 1 + 1 := ⟨Try.prog.types.size - 2, by have : 2 ≤ Try.prog.types.size := of_decide_eq_true (by kernel_rfl); omega⟩
    obtain ⟨d, hd⟩ := hsz
    have z1 : (sp x.2).size ≤ maxLen := by rw [sp_size]; have := hx.2.2; unfold maxLen; omega
    have z2 : (Lit.int .i64 (x.1 : Int)).wf = true := WalkArith.wf_i64 (by have := hx.1; omega)
    have hf : (ekP x).formed Try.prog 90 = true := by
      simp [Value.formed, ekP, Try.underlying90, c1]
    refine ⟨.string (keyBytes [.int .i64 (x.1 : Int), .string (sp x.2).data.toList]), ?_⟩
    unfold keyOf
    unfold ekP at hf ⊢
    rw [Try.underlying90]
    simp only [hk, hf, Bool.and_self, if_true, hd, Value.cells]
    simp [Program.keyLits, Try.underlying90, Try.underlying73, Try.underlying47, Try.underlying3, c1, c2, c3, c4, z1, z2]
  inj x y hx hy e := by
    unfold ekP at e
    simp only [Value.agg.injEq, Array.mk.injEq, List.cons.injEq, Value.int.injEq, Value.string.injEq, true_and, and_true] at e
    exact Prod.ext (by omega) (sp_inj hx.2.1 hy.2.1 e.2)

end Go.Proofs.Ytepmdnggiajkbaa

/-
  The program's table in memory: ten cells, five rows, two maps; what stays and what turns.
-/
namespace Go.Proofs.Ytepmdnggiajkbaa
open Go.RowKit

/-- A line: a row or an edge. -/
structure Ln where
  wd : List Int
  ed : Nat
  cp : Nat
  cl : Nat
def ln0 : Ln := ⟨[], 0, 0, 0⟩
def lnE (x : Ln) : List Value := [.string (sp x.wd), .int .i64 (x.ed : Int), .int .i64 (x.cp : Int), .int .i64 (x.cl : Int)]
def spE (x : List Int) : List Value := [.string (sp x)]
def ceV (x : List Int) : Value := .agg #[.string (sp x)]
def lnV (x : Ln) : Value := .agg #[.string (sp x.wd), .int .i64 (x.ed : Int), .int .i64 (x.cp : Int), .int .i64 (x.cl : Int)]
/-- What a table of the program's holds. -/
structure Ts where
  kind : Int
  K : Nat
  o : Int
  f : List Int → Option (List Int)
  nf : Nat
  ls : List Ln
  rows : List Nat
  ord : List Nat
  cols : List (List Int)
  kn : List Nat
  cls : List (Nat × List Int)
def Ts.ln (s : Ts) (i : Nat) : Ln := s.ls.getD i ln0
/-- Where it lies. -/
structure Tl where
  b : Nat
  mf : Nat
  mc : Nat
  gl : Nat
  cl : Nat
  go : Nat
  co : Nat
  ar : Option Addr
  cr : Nat
  ac : Option Addr
  cc : Nat
  ak : Option Addr
  ck : Nat
def obk (a : Option Addr) : Option Nat := a.map (·.block)
def Tl.bk (p : Tl) (i : Nat) : Option Nat :=
  if i = 0 then some p.b else if i = 1 then some p.mf else if i = 2 then some p.mc else if i = 3 then some p.gl else if i = 4 then some p.go else if i = 5 then obk p.ar else if i = 6 then obk p.ac else if i = 7 then obk p.ak else none
def Tl.has (p : Tl) (k : Nat) : Prop := ∃ i, p.bk i = some k
def toC (p : Tl) (s : Ts) : List Value := [.int .i64 s.kind, .int .i64 (s.K : Int), .int .i64 s.o, .map (some p.mf), .slice (some ⟨p.gl, 0, none⟩) s.ls.length p.cl, .slice p.ar s.rows.length p.cr, .slice (some ⟨p.go, 0, none⟩) s.ord.length p.co, .slice p.ac s.cols.length p.cc, .slice p.ak s.kn.length p.ck, .map (some p.mc)]
def clsF (cls : List (Nat × List Int)) (x : Nat × List Int) : Option Value := if x ∈ cls then some (.int .i64 ((cls.idxOf x + 1 : Nat) : Int)) else none
def celF (f : List Int → Option (List Int)) (x : List Int) : Option Value := (f x).map ceV
theorem eLI : Elt .i64 3 57 8 := ⟨Try.underlying57, by kernel_rfl, by decide⟩
theorem eLn : EltG 54 56 (.agg #[.string ⟨#[]⟩, .int .i64 0, .int .i64 0, .int .i64 0]) 4 40 lnE :=
  ⟨Try.underlying56, by kernel_rfl, rfl, by decide, fun _ => rfl, fun x u hu => by
    simp only [lnE, List.mem_cons, List.not_mem_nil, or_false] at hu
    rcases hu with rfl | rfl | rfl | rfl <;> rfl⟩
theorem eSp : EltG 47 59 (.string ⟨#[]⟩) 1 16 spE :=
  ⟨Try.underlying59, by kernel_rfl, rfl, by decide, fun _ => rfl, fun x u hu => by
    simp only [spE, List.mem_cons, List.not_mem_nil, or_false] at hu
    rcases hu with rfl; rfl⟩
theorem lnE_len (x : Ln) : (lnE x).length = 4 := rfl
theorem spE_len (x : List Int) : (spE x).length = 1 := rfl
/-- The table. -/
structure To (B : Nat) (w : World) (p : Tl) (s : Ts) : Prop where
  o : Bk w p.b (toC p s) 62
  mf : FMap 47 (fun l : List Int => .string (sp l)) okS w p.mf s.nf (celF s.f)
  mc : FMap 90 ekP okP w p.mc s.cls.length (clsF s.cls)
  ls : OwnG 54 4 lnE w B (.slice (some ⟨p.gl, 0, none⟩) s.ls.length p.cl) s.ls
  od : OwnL .i64 3 w B (.slice (some ⟨p.go, 0, none⟩) s.ord.length p.co) (ni s.ord)
  rw : OwnL .i64 3 w B (.slice p.ar s.rows.length p.cr) (ni s.rows)
  cs : OwnG 47 1 spE w B (.slice p.ac s.cols.length p.cc) s.cols
  kn : OwnL .i64 3 w B (.slice p.ak s.kn.length p.ck) (ni s.kn)
  dis : ∀ i j k, p.bk i = some k → p.bk j = some k → i = j
  base : B ≤ p.b ∧ B ≤ p.mf ∧ B ≤ p.mc
section
variable {B : Nat} {w w' : World} {p : Tl} {s : Ts}
theorem ob_sl {a : Option Addr} {n c : Nat} : (Value.slice a n c).ownBlock = obk a := by cases a <;> rfl
theorem To.lt (h : To B w p s) {i k : Nat} (e : p.bk i = some k) : B ≤ k ∧ k < w.heap.size := by
  unfold Tl.bk at e
  split at e
  · cases e; exact ⟨h.base.1, h.o.lt⟩
  split at e
  · cases e; exact ⟨h.base.2.1, h.mf.lt⟩
  split at e
  · cases e; exact ⟨h.base.2.2, h.mc.lt⟩
  split at e
  · cases e; exact h.ls.lt rfl
  split at e
  · cases e; exact h.od.lt rfl
  split at e
  · exact h.rw.lt (by rw [ob_sl]; exact e)
  split at e
  · exact h.cs.lt (by rw [ob_sl]; exact e)
  split at e
  · exact h.kn.lt (by rw [ob_sl]; exact e)
  · cases e
theorem To.hlt (h : To B w p s) {k : Nat} (e : p.has k) : B ≤ k ∧ k < w.heap.size := by obtain ⟨i, e⟩ := e; exact h.lt e
theorem To.keep (h : To B w p s) (k : ∀ i b, p.bk i = some b → w'.heap[b]? = w.heap[b]?) : To B w' p s :=
  ⟨(k 0 _ rfl).trans h.o, h.mf.keep (k 1 _ rfl), h.mc.keep (k 2 _ rfl), h.ls.keep fun b e => k 3 b e, h.od.keep fun b e => k 4 b e, h.rw.keep fun b e => k 5 b (by rw [ob_sl] at e; exact e), h.cs.keep fun b e => k 6 b (by rw [ob_sl] at e; exact e), h.kn.keep fun b e => k 7 b (by rw [ob_sl] at e; exact e), h.dis, h.base⟩
theorem To.below (h : To B w p s) (hb : Below w.heap.size w w') : To B w' p s := h.keep fun _ b e => hb.block b (h.lt e).2
theorem To.bx {X : Nat → Prop} (h : To B w p s) (hb : Bx X w w') (hx : ∀ k, p.has k → ¬ X k) : To B w' p s := h.keep fun i b e => hb.block b (h.lt e).2 (hx b ⟨i, e⟩)
theorem To.c0 (h : To B w p s) : w.cell? ⟨p.b, 0, none⟩ = some (.int .i64 s.kind) := h.o.cell 0
theorem To.c1 (h : To B w p s) : w.cell? ⟨p.b, 1, none⟩ = some (.int .i64 (s.K : Int)) := h.o.cell 1
theorem To.c2 (h : To B w p s) : w.cell? ⟨p.b, 2, none⟩ = some (.int .i64 s.o) := h.o.cell 2
theorem To.c3 (h : To B w p s) : w.cell? ⟨p.b, 3, none⟩ = some (.map (some p.mf)) := h.o.cell 3
theorem To.c4 (h : To B w p s) : w.cell? ⟨p.b, 4, none⟩ = some (.slice (some ⟨p.gl, 0, none⟩) s.ls.length p.cl) := h.o.cell 4
theorem To.c5 (h : To B w p s) : w.cell? ⟨p.b, 5, none⟩ = some (.slice p.ar s.rows.length p.cr) := h.o.cell 5
theorem To.c6 (h : To B w p s) : w.cell? ⟨p.b, 6, none⟩ = some (.slice (some ⟨p.go, 0, none⟩) s.ord.length p.co) := h.o.cell 6
theorem To.c7 (h : To B w p s) : w.cell? ⟨p.b, 7, none⟩ = some (.slice p.ac s.cols.length p.cc) := h.o.cell 7
theorem To.c8 (h : To B w p s) : w.cell? ⟨p.b, 8, none⟩ = some (.slice p.ak s.kn.length p.ck) := h.o.cell 8
theorem To.c9 (h : To B w p s) : w.cell? ⟨p.b, 9, none⟩ = some (.map (some p.mc)) := h.o.cell 9
theorem To.frz (h : To B w p s) (i : Nat) : w.frozen? ⟨p.b, i, none⟩ = false := h.o.frz i
/-- The cells of a line. -/
theorem To.lc (h : To B w p s) {i : Nat} (hi : i < s.ls.length) : w.cell? ⟨p.gl, i * 4, none⟩ = some (.string (sp (s.ln i).wd)) ∧ w.cell? ⟨p.gl, i * 4 + 1, none⟩ = some (.int .i64 ((s.ln i).ed : Int)) ∧
    w.cell? ⟨p.gl, i * 4 + 2, none⟩ = some (.int .i64 ((s.ln i).cp : Int)) ∧ w.cell? ⟨p.gl, i * 4 + 3, none⟩ = some (.int .i64 ((s.ln i).cl : Int)) ∧ ∀ j, w.frozen? ⟨p.gl, j, none⟩ = false := by
  obtain ⟨g, c, e, _, _, _, _, h1, h2⟩ := h.ls.pos lnE_len ln0 (by omega)
  cases e
  exact ⟨h1 i 0 hi (by omega), h1 i 1 hi (by omega), h1 i 2 hi (by omega), h1 i 3 hi (by omega), h2⟩
theorem To.lnc (h : To B w p s) : s.ls.length ≤ p.cl ∧ p.cl ≤ maxLen := by
  rcases h.ls.2 with ⟨e, _⟩ | ⟨g, cap, cur, e, _, _, h1, h2, _⟩
  · cases e
  · cases e; exact ⟨h1, h2⟩
/-- A column. -/
theorem To.cc (h : To B w p s) {i : Nat} (hi : i < s.cols.length) : ∃ g, p.ac = some ⟨g, 0, none⟩ ∧ p.bk 6 = some g ∧ w.cell? ⟨g, i, none⟩ = some (.string (sp (s.cols.getD i []))) := by
  obtain ⟨g, c, e, _, _, _, _, h1, h2⟩ := h.cs.pos spE_len [] (by omega)
  injection e with e1 e2 e3
  have := h1 i 0 hi (by omega)
  rw [Nat.mul_one, Nat.add_zero] at this
  exact ⟨g, e1, by show obk p.ac = _; rw [e1]; rfl, this⟩
/-- A number of a row of numbers. -/
theorem own_at {a : Option Addr} {n c : Nat} {l : List Nat} (h : OwnL .i64 3 w B (.slice a n c) (ni l)) {i : Nat} (hi : i < l.length) : ∃ g, a = some ⟨g, 0, none⟩ ∧ n = l.length ∧ n ≤ c ∧ c ≤ maxLen ∧ w.cell? ⟨g, i, none⟩ = some (.int .i64 ((l.getD i 0 : Nat) : Int)) ∧ ∀ j, w.frozen? ⟨g, j, none⟩ = false := by
  obtain ⟨g, c', e, h0, h00, _, _, h1, h2⟩ := h.pos (by rw [ni_len]; omega)
  injection e with e1 e2 e3
  subst e3
  rw [ni_len] at e2 h0
  have := h1 i (by rw [ni_len]; exact hi)
  rw [ni_at] at this
  exact ⟨g, e1, e2, by omega, h00, this, h2⟩
end

end Go.Proofs.Ytepmdnggiajkbaa

/-
  The program's table in plain words: cells, what holds of its lines.
-/
namespace Go.Proofs.Ytepmdnggiajkbaa

/-- A cell, if it is known; of a word that is too long nothing is said. -/
def Ts.cel (s : Ts) (u e : List Int) : Option (List Int) := if 4096 < u.length + e.length then some [] else (s.f (u ++ e)).map fun o => if s.kind = 2 then o.drop u.length else o
def Ts.wd (s : Ts) (i : Nat) : List Int := (s.ln i).wd
def Ts.co (s : Ts) (c : Nat) : List Int := s.cols.getD c []
def Ts.rw (s : Ts) (i : Nat) : Nat := s.rows.getD i 0
/-- What is seen of a table, and holds. -/
structure Vi (s : Ts) : Prop where
  k1 : 1 ≤ s.K
  k2 : s.K ≤ 64
  kd : s.kind = 1 ∨ s.kind = 2
  len : s.ls.length = 1 + s.K * s.rows.length
  rl : s.rows.length ≤ 1024
  r0 : s.wd 0 = []
  rg : ∀ i, i < s.rows.length → s.rw i < 1 + s.K * i ∧ (s.ln (s.rw i)).ed = 1 + s.K * i
  ed : ∀ i x, i < s.rows.length → x < s.K → s.wd (1 + s.K * i + x) = s.wd (s.rw i) ++ [(x : Int)]
  no : ∀ p, p ∉ s.rows → (s.ln p).ed = 0
  nd : ∀ i j, i < s.ls.length → j < s.ls.length → s.wd i = s.wd j → i = j
  sy : ∀ i x, x ∈ s.wd i → 0 ≤ x ∧ x < (s.K : Int)
  wl : ∀ i, i < s.ls.length → (s.wd i).length ≤ s.rows.length
  ol : s.ord.length = s.ls.length
  om : ∀ i, i < s.ls.length → s.ord.getD i 0 < s.ls.length
  os : ∀ i j, i < j → j < s.ls.length → Ahd (s.wd (s.ord.getD i 0)) (s.wd (s.ord.getD j 0))
  oa : ∀ p, p < s.ls.length → ∃ i, i < s.ls.length ∧ s.ord.getD i 0 = p
  cl : s.cols.length ≤ 1024
  cw : ∀ e ∈ s.cols, e.length ≤ 4096 ∧ ∀ x ∈ e, 0 ≤ x ∧ x < (s.K : Int)
  cn : s.cols.Nodup
  kl : s.kn.length = s.cols.length
  fw : ∀ w o, s.f w = some o → w.length ≤ 4096 ∧ (∀ x ∈ w, 0 ≤ x ∧ x < (s.K : Int)) ∧ Sb o ∧ o.length ≤ 4096 ∧ (s.kind = 2 → o.length = w.length) ∧ (s.kind = 1 → o.length = 1)
theorem Vi.sb {s : Ts} (h : Vi s) (i : Nat) : Sb (s.wd i) := fun x hx => by have := h.sy i x hx; have := h.k2; omega
theorem Vi.cb {s : Ts} (h : Vi s) {e : List Int} (he : e ∈ s.cols) : Sb e := fun x hx => by have := (h.cw e he).2 x hx; have := h.k2; omega
theorem Vi.co_mem {s : Ts} {c : Nat} (hc : c < s.cols.length) : s.co c ∈ s.cols := by
  unfold Ts.co; rw [List.getD_eq_getElem?_getD, List.getElem?_eq_getElem hc]; exact List.getElem_mem hc
theorem Vi.rw_mem {s : Ts} {i : Nat} (hi : i < s.rows.length) : s.rw i ∈ s.rows := by
  unfold Ts.rw; rw [List.getD_eq_getElem?_getD, List.getElem?_eq_getElem hi]; exact List.getElem_mem hi
theorem Vi.rw_of {s : Ts} {p : Nat} (hp : p ∈ s.rows) : ∃ i, i < s.rows.length ∧ s.rw i = p := by
  obtain ⟨i, hi, e⟩ := List.getElem_of_mem hp
  exact ⟨i, hi, by unfold Ts.rw; rw [List.getD_eq_getElem?_getD, List.getElem?_eq_getElem hi]; exact e⟩
theorem Vi.wl1 {s : Ts} (h : Vi s) {i : Nat} (hi : i < s.ls.length) : (s.wd i).length ≤ 1024 := by have := h.wl i hi; have := h.rl; omega
theorem Vi.len2 {s : Ts} (h : Vi s) : s.ls.length ≤ 65537 := by
  have h1 := h.len
  have h2 : s.K * s.rows.length ≤ 64 * 1024 := Nat.mul_le_mul h.k2 h.rl
  omega
theorem mul_in {K i x n : Nat} (hi : i < n) (hx : x < K) : K * i + x < K * n := by
  have : K * (i + 1) ≤ K * n := Nat.mul_le_mul_left K hi
  rw [Nat.mul_add] at this; omega
theorem Vi.edge {s : Ts} (h : Vi s) {i x : Nat} (hi : i < s.rows.length) (hx : x < s.K) : 1 + s.K * i + x < s.ls.length := by
  have := mul_in hi hx
  rw [h.len]; omega
theorem Vi.rwlt {s : Ts} (h : Vi s) {i : Nat} (hi : i < s.rows.length) : s.rw i < s.ls.length := by
  have h1 := (h.rg i hi).1
  have h2 := mul_in (K := s.K) (i := i) (x := 0) hi h.k1
  rw [h.len]; omega
/-- A line has edges just if it is a row. -/
theorem Vi.ed_row {s : Ts} (h : Vi s) {p : Nat} (hp : 0 < (s.ln p).ed) : ∃ i, i < s.rows.length ∧ s.rw i = p ∧ (s.ln p).ed = 1 + s.K * i := by
  have : p ∈ s.rows := Classical.byContradiction fun c => by rw [h.no p c] at hp; omega
  obtain ⟨i, hi, e⟩ := Vi.rw_of this
  exact ⟨i, hi, e, by rw [← e]; exact (h.rg i hi).2⟩
theorem Vi.ed_lt {s : Ts} (h : Vi s) {p x : Nat} (hp : 0 < (s.ln p).ed) (hx : x < s.K) : (s.ln p).ed + x < s.ls.length := by
  obtain ⟨i, hi, _, e⟩ := h.ed_row hp
  rw [e]; exact h.edge hi hx
theorem Vi.ed_wd {s : Ts} (h : Vi s) {p x : Nat} (hp : 0 < (s.ln p).ed) (hx : x < s.K) : s.wd ((s.ln p).ed + x) = s.wd p ++ [(x : Int)] := by
  obtain ⟨i, hi, e1, e⟩ := h.ed_row hp
  rw [e, ← e1]; exact h.ed i x hi hx
/-- Where a word leads along the rows. -/
def fndT (s : Ts) : Nat → List Int → Option Nat
  | p, [] => some p
  | p, x :: w => if (s.ln p).ed = 0 then none else fndT s ((s.ln p).ed + x.toNat) w
theorem fnd_yes {s : Ts} (h : Vi s) : ∀ (w : List Int) (p q : Nat), p < s.ls.length → (∀ x ∈ w, 0 ≤ x ∧ x < (s.K : Int)) → fndT s p w = some q → q < s.ls.length ∧ s.wd q = s.wd p ++ w
  | [], p, q, hp, _, e => by cases e; exact ⟨hp, by simp⟩
  | x :: w, p, q, hp, hx, e => by
    have hx0 := hx x (by simp)
    by_cases c : (s.ln p).ed = 0
    · rw [fndT, if_pos c] at e; cases e
    · rw [fndT, if_neg c] at e
      have hxK : x.toNat < s.K := by omega
      obtain ⟨h1, h2⟩ := fnd_yes h w _ q (h.ed_lt (by omega) hxK) (fun y hy => hx y (by simp [hy])) e
      refine ⟨h1, ?_⟩
      rw [h2, h.ed_wd (by omega) hxK, List.append_assoc]
      congr 1
      rw [Int.toNat_of_nonneg hx0.1]; rfl
/-- Each line is come to by its word. -/
theorem fnd_line {s : Ts} (h : Vi s) : ∀ (p : Nat), p < s.ls.length → ∀ (w : List Int), fndT s 0 (s.wd p ++ w) = fndT s p w := by
  intro p
  induction p using Nat.strongRecOn with
  | _ p ih =>
    intro hp w
    rcases Nat.eq_zero_or_pos p with c | c
    · subst c; rw [h.r0]; rfl
    · have hK := h.k1
      have hq : p - 1 < s.K * s.rows.length := by rw [h.len] at hp; omega
      have hi : (p - 1) / s.K < s.rows.length := Nat.div_lt_of_lt_mul hq
      have hx : (p - 1) % s.K < s.K := Nat.mod_lt _ hK
      have ep : p = 1 + s.K * ((p - 1) / s.K) + (p - 1) % s.K := by have := Nat.div_add_mod (p - 1) s.K; omega
      have hrg := h.rg _ hi
      have hlt : s.rw ((p - 1) / s.K) < p := by omega
      have e1 := h.ed _ _ hi hx
      rw [← ep] at e1
      rw [e1, List.append_assoc, ih _ hlt (h.rwlt hi)]
      show fndT s _ (((p - 1) % s.K : Nat) :: w) = _
      rw [fndT, if_neg (by omega), hrg.2]
      congr 1
      omega
theorem fnd_no {s : Ts} (h : Vi s) {w : List Int} (hw : ∀ p, p < s.ls.length → s.wd p ≠ w) (hx : ∀ x ∈ w, 0 ≤ x ∧ x < (s.K : Int)) : fndT s 0 w = none := by
  cases e : fndT s 0 w with
  | none => rfl
  | some q =>
    obtain ⟨h1, h2⟩ := fnd_yes h w 0 q (by rw [h.len]; omega) hx e
    rw [h.r0, List.nil_append] at h2
    exact absurd h2 (hw q h1)

end Go.Proofs.Ytepmdnggiajkbaa

/-
  The program's table: a line's edges; find; a cell.
-/
namespace Go.Proofs.Ytepmdnggiajkbaa
open Go.RowKit

theorem isRow_any (x : Ln) (w : World) : Calls Try.prog 31 #[lnV x] w fun e w' => e = .returned (.bool (decide (0 < x.ed))) ∧ Below w.heap.size w w' := by
  have H := hide (show decide (0 < x.ed) = decide ((0 : Int) < (x.ed : Int)) by simp)
  unfold lnV
  go_enter Try.func31, Try.ntmps31
  go_wp2
  go_ret
  exact ⟨ret_bool (by first | rfl | exact (unhide H).symm), ballo _ _⟩
section
variable {B : Nat} {w : World} {p : Tl} {s : Ts}
set_option maxRecDepth 100000 in
theorem edge_any (h : To B w p s) {i : Nat} (x : Int) (hi : i < s.ls.length) (hx0 : 0 ≤ x) (hx : x ≤ 1000000000) (he : (s.ln i).ed ≤ 1000000000) :
    Calls Try.prog 49 #[.pointer (some ⟨p.b, 0, none⟩), .int .i64 (i : Int), .int .i64 x] w fun e w' => e = .returned (.int .i64 ((s.ln i).ed + x)) ∧ w' = w := by
  have c4 := h.c4
  have l1 := (h.lc hi).2.1
  have hi' : (i : Int) < (s.ls.length : Int) := by omega
  have hlen := h.lnc
  generalize (s.ln i).ed = E at *
  clear h
  go_enter Try.func49, Try.ntmps49
  go_wp2
  go_ret
  exact ⟨by first | rfl | (congr 2; omega), rfl⟩
set_option maxRecDepth 100000 in
set_option maxHeartbeats 2000000 in
theorem find_any (h : To B w p s) (V : Vi s) (a : Option Addr) (c : Nat) (l : List Int) (hr : RdL .i64 w a l) (hw : ∀ x ∈ l, 0 ≤ x ∧ x < (s.K : Int)) (hl : l.length ≤ 1000000000) :
    Calls Try.prog 30 #[.pointer (some ⟨p.b, 0, none⟩), .slice a l.length c] w fun e w' => e = .returned (.tuple #[.int .i64 (((fndT s 0 l).getD 0 : Nat) : Int), .bool (fndT s 0 l).isSome]) ∧ Below w.heap.size w w' := by
  have HO := hide h
  have HV := hide V
  have HR := hide hr
  have HW := hide hw
  have hlen := h.lnc
  have hz0 : 0 < s.ls.length := by rw [V.len]; omega
  have hz1 := V.len2
  clear h V hr hw
  go_enter Try.func30, Try.ntmps30
  go_wp2
  go_loopw [4, 10] (fun pv iv wr => ∃ P j : Nat, pv = .int .i64 (P : Int) ∧ iv = .int .i64 (j : Int) ∧ j ≤ l.length ∧ P < s.ls.length ∧ Hid (fndT s 0 l = fndT s P (l.drop j)) ∧ Below w.heap.size w wr) (fun _ iv _ => l.length - (intOf iv).toNat)
  case atStart => exact ⟨0, 0, rfl, rfl, Nat.zero_le _, hz0, hide rfl, Below.refl _ _⟩
  case round =>
    obtain ⟨P, j, rfl, rfl, hj, hP, HF, hB⟩ := hrel
    by_cases hlt : j < l.length
    · have hlt' : (j : Int) < (l.length : Int) := by omega
      have hP' : (P : Int) < (s.ls.length : Int) := by omega
      obtain ⟨b, off, rfl, hc⟩ := ((unhide HR).below hB).at hlt
      have c0 := hc j hlt
      have hO := (unhide HO).below hB
      have c4 := hO.c4
      obtain ⟨l0, l1, l2, l3, -⟩ := hO.lc hP
      have his := isRow_any (s.ln P) wr
      unfold lnV at his
      have hxr : 0 ≤ l.getD j 0 ∧ l.getD j 0 < (s.K : Int) := by
        rw [List.getD_eq_getElem?_getD, List.getElem?_eq_getElem hlt]
        exact unhide HW _ (List.getElem_mem hlt)
      have hdr : l.drop j = l.getD j 0 :: l.drop (j + 1) := by
        rw [List.getD_eq_getElem?_getD, List.getElem?_eq_getElem hlt]; exact List.drop_eq_getElem_cons hlt
      have hK := (unhide HV).k2
      clear hc
      by_cases he : 0 < (s.ln P).ed
      · rw [decide_eq_true he] at his
        have hb := (unhide HV).ed_lt (x := (l.getD j 0).toNat) he (by omega)
        have hed : ∀ w1, Below w.heap.size w w1 → Calls Try.prog 49 #[.pointer (some ⟨p.b, 0, none⟩), .int .i64 (P : Int), .int .i64 (l.getD j 0)] w1 fun e w' => e = .returned (.int .i64 ((s.ln P).ed + l.getD j 0)) ∧ w' = w1 := fun w1 hb1 => edge_any ((unhide HO).below hb1) (l.getD j 0) hP hxr.1 (by omega) (by omega)
        have HG : Hid (fndT s 0 l = fndT s ((s.ln P).ed + (l.getD j 0).toNat) (l.drop (j + 1))) := hide (by rw [unhide HF, hdr, fndT, if_neg (by omega)])
        have e1 : ((s.ln P).ed : Int) + l.getD j 0 = (((s.ln P).ed + (l.getD j 0).toNat : Nat) : Int) := by omega
        generalize (s.ln P).wd = Wd at *
        generalize (s.ln P).cp = Cp at *
        generalize (s.ln P).cl = Cl at *
        generalize (s.ln P).ed = E at *
        generalize l.getD j 0 = x at *
        have HE := hide e1
        clear e1 hdr hO
        go_wp2_with fail
        refine his.mono ?_
        rintro e w1 ⟨rfl, hb1⟩
        have hB1 := bstep hB hb1
        have hed1 := hed w1 hB1
        clear hed his
        go_wp2_with fail
        refine hed1.mono ?_
        rintro e w2 ⟨rfl, hw2⟩
        subst hw2
        rw [unhide HE]
        go_wp2
        go_roundw
        case rel => exact ⟨E + x.toNat, j + 1, by first | rfl | (congr 1; omega), by go_num, by omega, hb, HG, hB1⟩
        case measure => simp [intOf]; omega
      · rw [decide_eq_false he] at his
        have HG := hide (show fndT s 0 l = none by rw [unhide HF, hdr, fndT, if_pos (by omega)])
        generalize (s.ln P).wd = Wd at *
        generalize (s.ln P).cp = Cp at *
        generalize (s.ln P).cl = Cl at *
        generalize (s.ln P).ed = E at *
        generalize l.getD j 0 = x at *
        clear hdr hO
        go_wp2_with fail
        refine his.mono ?_
        rintro e w1 ⟨rfl, hb1⟩
        have hB1 := bstep hB hb1
        clear his
        go_wp2
        go_ret2
        exact ⟨by rw [unhide HG]; rfl, hB1⟩
    · obtain rfl : j = l.length := by omega
      have HG := hide (show fndT s 0 l = some P by rw [unhide HF, List.drop_length]; rfl)
      go_wp2
      go_ret2
      exact ⟨by rw [unhide HG]; rfl, hB⟩
set_option maxRecDepth 100000 in
set_option maxHeartbeats 4000000 in
/-- A cell: what is known of a line's word with a column's behind it. -/
theorem cell_any (h : To B w p s) (V : Vi s) {i c : Nat} (hi : i < s.ls.length) (hc : c < s.cols.length) :
    Calls Try.prog 47 #[.pointer (some ⟨p.b, 0, none⟩), .int .i64 (i : Int), .int .i64 (c : Int)] w fun e w' => e = .returned (.tuple #[ceV ((s.cel (s.wd i) (s.co c)).getD []), .bool (s.cel (s.wd i) (s.co c)).isSome]) ∧ Below w.heap.size w w' := by
  have hb0 := ballo w (.cells #[.string ⟨#[]⟩] 73)
  have hA := h.below hb0
  have c0 := hA.c0
  have c3 := hA.c3
  have c4 := hA.c4
  have c7 := hA.c7
  obtain ⟨l0, -, -, -, -⟩ := hA.lc hi
  obtain ⟨gc, ea, -, k0⟩ := hA.cc hc
  have hi' : (i : Int) < (s.ls.length : Int) := by omega
  have hc' : (c : Int) < (s.cols.length : Int) := by omega
  have zu := sp_size (s.wd i)
  have ze := sp_size (s.co c)
  have HS := hide ((V.sb i).app (V.cb (Vi.co_mem hc)))
  have lu := V.wl1 hi
  have le := (V.cw _ (Vi.co_mem hc)).1
  have hwd : (s.ln i).wd = s.wd i := rfl
  have hco : s.cols.getD c [] = s.co c := rfl
  rw [hwd] at l0
  rw [hco] at k0
  rw [ea] at c7
  have HF := hide V.fw
  have kd := V.kd
  have HM := hide hA.mf
  have hlen := h.lnc
  have hcell : s.cel (s.wd i) (s.co c) = if 4096 < (s.wd i).length + (s.co c).length then some [] else (s.f (s.wd i ++ s.co c)).map fun o => if s.kind = 2 then o.drop (s.wd i).length else o := rfl
  have hbn : p.b ≠ w.heap.size := by have := h.o.lt; omega
  clear h V hA
  generalize s.cel (s.wd i) (s.co c) = R at *
  generalize s.wd i = u at *
  generalize s.co c = e at *
  by_cases hq : 4096 < u.length + e.length
  · have hq' : (4096 : Int) < (u.length : Int) + (e.length : Int) := by omega
    rw [if_pos hq] at hcell
    have HR := hide hcell
    clear hcell hq HF HM
    have HB := hide hb0
    clear hb0
    go_enter Try.func47, Try.ntmps47
    go_wp2
    go_quiet (fail)
    go_wp2
    refine bodyPost_ret (v := .tuple #[ceV [], .bool true]) ?_ rfl ⟨by rw [unhide HR]; rfl, ?_⟩
    · simp [results, Try.results47, go_sem, ceV, sp, bts]
    · exact (below_drewN (unhide HB) _).setCell (p := ⟨w.heap.size, 0, none⟩) (Nat.le_refl _) _
  · have hq' : ¬ (4096 : Int) < (u.length : Int) + (e.length : Int) := by omega
    rw [if_neg hq] at hcell
    have hz : ∀ w1 : World, (zeroValue 73).run Try.prog w1 = .ok (.agg #[.string ⟨#[]⟩]) w1 := fun w1 => Try.zeroValue73 w1
    have hok : okS (u ++ e) := ⟨unhide HS, by rw [List.length_append]; omega⟩
    have hlk : ∀ q, (Instr.lookup 55 (.map (some p.mf)) (.string (sp u ++ sp e)) true).run Try.prog ((w.alloc (.cells #[.string ⟨#[]⟩] 73)).drewN q) = .ok (.tuple #[(celF s.f (u ++ e)).getD (.agg #[.string ⟨#[]⟩]), .bool (celF s.f (u ++ e)).isSome]) ((w.alloc (.cells #[.string ⟨#[]⟩] 73)).drewN q) := fun q => by
      rw [sp_app]
      exact FMap.look keysS (FMap.keep (w' := (w.alloc (.cells #[.string ⟨#[]⟩] 73)).drewN q) (unhide HM) rfl) Try.underlying55 (hz _) hok
    have HZ := hide (show s.f (u ++ e) = s.f (u ++ e) from rfl)
    have HB := hide hb0
    clear hb0 HM hq hok hz
    cases hf : s.f (u ++ e) with
    | none =>
      have e1 : celF s.f (u ++ e) = none := by unfold celF; rw [hf]; rfl
      rw [e1] at hlk
      rw [hf] at hcell
      have HR := hide (show R = none from hcell)
      simp only [Option.getD_none, Option.isSome_none] at hlk
      clear hcell e1 hf HF
      go_enter Try.func47, Try.ntmps47
      go_wp2
      go_quiet (fail)
      go_wp2
      refine bodyPost_ret (v := .tuple #[ceV [], .bool false]) ?_ rfl ⟨by rw [unhide HR]; rfl, ?_⟩
      · simp [results, Try.results47, go_sem, ceV, sp, bts]
      · exact (((below_drewN (unhide HB) _).setCell (p := ⟨w.heap.size, 0, none⟩) (Nat.le_refl _) _).setCell (p := ⟨w.heap.size, 0, none⟩) (Nat.le_refl _) _)
    | some o =>
      have e1 : celF s.f (u ++ e) = some (ceV o) := by unfold celF; rw [hf]; rfl
      rw [e1] at hlk
      rw [hf] at hcell
      obtain ⟨-, -, -, ho1, ho2, -⟩ := unhide HF _ _ hf
      simp only [Option.getD_some, Option.isSome_some, ceV] at hlk
      have zo := sp_size o
      have kx : ∀ q u, (((w.alloc (.cells #[.string ⟨#[]⟩] 73)).drewN q).setCell ⟨w.heap.size, 0, none⟩ u).cell? ⟨p.b, 0, none⟩ = some (.int .i64 s.kind) := fun q u =>
        (World.cell?_setCell_other (w := (w.alloc (.cells #[.string ⟨#[]⟩] 73)).drewN q) (a := ⟨w.heap.size, 0, none⟩) (b := ⟨p.b, 0, none⟩) (v := u) (h := fun e => hbn (by injection e with e1 _ _; exact e1.symm))).trans c0
      by_cases hk : s.kind = 2
      · have ho3 := ho2 hk
        rw [List.length_append] at ho3
        have ho4 : (u.length : Int) ≤ (o.length : Int) := by omega
        have HR := hide (show R = some (o.drop u.length) by rw [hcell, hk]; rfl)
        have t0 : (s.kind == 2) = true := by rw [hk]; rfl
        have HX := hide (sp_drop o u.length)
        have hx3 : ∀ q x y z, (((((w.alloc (.cells #[.string ⟨#[]⟩] 73)).drewN q).setCell ⟨w.heap.size, 0, none⟩ x).setCell ⟨w.heap.size, 0, none⟩ y).setCell ⟨w.heap.size, 0, none⟩ z).cell? ⟨w.heap.size, 0, none⟩ = some z := fun q x y z =>
          World.cell?_setCell_same _ _ _ (World.cell?_setCell_same _ _ _ (World.cell?_setCell_same _ _ _ (show ((w.alloc (.cells #[.string ⟨#[]⟩] 73)).drewN q).cell? ⟨w.heap.size, 0, none⟩ = some (.string ⟨#[]⟩) by simp)))
        clear hcell e1 hf HF ho2 ho3 hk
        go_enter Try.func47, Try.ntmps47
        go_wp2
        go_quiet (fail)
        go_wp2
        refine bodyPost_ret (v := .tuple #[ceV (o.drop u.length), .bool true]) ?_ rfl ⟨by rw [unhide HR]; rfl, ?_⟩
        · simp [results, Try.results47, go_sem, ceV, unhide HX, hx3]
        · first | exact ((below_drewN (unhide HB) _).setCell (p := ⟨w.heap.size, 0, none⟩) (Nat.le_refl _) _) | exact (((below_drewN (unhide HB) _).setCell (p := ⟨w.heap.size, 0, none⟩) (Nat.le_refl _) _).setCell (p := ⟨w.heap.size, 0, none⟩) (Nat.le_refl _) _) | exact ((((below_drewN (unhide HB) _).setCell (p := ⟨w.heap.size, 0, none⟩) (Nat.le_refl _) _).setCell (p := ⟨w.heap.size, 0, none⟩) (Nat.le_refl _) _).setCell (p := ⟨w.heap.size, 0, none⟩) (Nat.le_refl _) _)
      · have HR := hide (show R = some o by rw [hcell]; show some (if s.kind = 2 then _ else o) = _; rw [if_neg hk])
        have t0 : (s.kind == 2) = false := by simp [hk]
        clear hcell e1 hf HF ho2 hk
        go_enter Try.func47, Try.ntmps47
        go_wp2
        go_quiet (fail)
        go_wp2
        refine bodyPost_ret (v := .tuple #[ceV o, .bool true]) ?_ rfl ⟨by rw [unhide HR]; rfl, ?_⟩
        · simp [results, Try.results47, go_sem, ceV]
        · first | exact ((below_drewN (unhide HB) _).setCell (p := ⟨w.heap.size, 0, none⟩) (Nat.le_refl _) _) | exact (((below_drewN (unhide HB) _).setCell (p := ⟨w.heap.size, 0, none⟩) (Nat.le_refl _) _).setCell (p := ⟨w.heap.size, 0, none⟩) (Nat.le_refl _) _) | exact ((((below_drewN (unhide HB) _).setCell (p := ⟨w.heap.size, 0, none⟩) (Nat.le_refl _) _).setCell (p := ⟨w.heap.size, 0, none⟩) (Nat.le_refl _) _).setCell (p := ⟨w.heap.size, 0, none⟩) (Nat.le_refl _) _)

/-- Is a cell known? -/
def Ts.isK (s : Ts) (i c : Nat) : Prop := (s.cel (s.wd i) (s.co c)).isSome = true
set_option maxRecDepth 100000 in
set_option maxHeartbeats 2000000 in
theorem isKnown_any (h : To B w p s) (V : Vi s) {i c : Nat} (hi : i < s.ls.length) (hc : c < s.cols.length) (hk : c < (s.ln i).cp → s.isK i c) :
    Calls Try.prog 69 #[.pointer (some ⟨p.b, 0, none⟩), .int .i64 (i : Int), .int .i64 (c : Int)] w fun e w' => e = .returned (.bool (s.cel (s.wd i) (s.co c)).isSome) ∧ Below w.heap.size w w' := by
  have hce := cell_any h V hi hc
  have c4 := h.c4
  obtain ⟨-, -, l2, -, -⟩ := h.lc hi
  have hi' : (i : Int) < (s.ls.length : Int) := by omega
  have hlen := h.lnc
  clear h V
  unfold Ts.isK at hk
  generalize s.cel (s.wd i) (s.co c) = R at *
  generalize (s.ln i).cp = C at *
  by_cases hq : c < C
  · have HR := hide (hk hq)
    have t0 : (c : Int) < (C : Int) := by omega
    clear hk hce
    go_enter Try.func69, Try.ntmps69
    go_wp2
    go_ret
    exact ⟨by rw [unhide HR]; rfl, Below.refl _ _⟩
  · have t0 : ¬ (c : Int) < (C : Int) := by omega
    clear hk
    unfold ceV at hce
    generalize R.getD [] = rv at *
    generalize R.isSome = rb at *
    go_enter Try.func69, Try.ntmps69
    go_wp2_with (go_at_call 47; refine hce.mono ?_; rintro e w1 ⟨rfl, hb1⟩)
    go_ret
    exact ⟨rfl, by first | exact bstep hb1 (ballo _ _) | exact hb1⟩
end

end Go.Proofs.Ytepmdnggiajkbaa

/-
  The program's table: the first cell that is not known.
-/
namespace Go.Proofs.Ytepmdnggiajkbaa
open Go.RowKit

section
variable {B : Nat} {w w' : World} {p : Tl} {s : Ts}
theorem ni_set (l : List Nat) (c n : Nat) : ni (l.set c n) = (ni l).set c (n : Int) := by unfold ni; rw [List.map_set]
theorem set_getD {l : List Nat} {c n : Nat} (hc : c < l.length) (i : Nat) : (l.set c n).getD i 0 = if i = c then n else l.getD i 0 := by
  rw [List.getD_eq_getElem?_getD, List.getD_eq_getElem?_getD, List.getElem?_set]
  by_cases e : c = i
  · subst e; simp [hc]
  · rw [if_neg e, if_neg (Ne.symm e)]
theorem To.ne (h : To B w p s) {i j a b : Nat} (hi : p.bk i = some a) (hj : p.bk j = some b) (hne : i ≠ j) : a ≠ b := fun e => by subst e; exact hne (h.dis i j a hi hj)
theorem To.toKn (h : To B w p s) (kn : List Nat) (hl : kn.length = s.kn.length) (h8 : OwnL .i64 3 w' B (.slice p.ak kn.length p.ck) (ni kn)) (hk : ∀ i b, i ≠ 7 → p.bk i = some b → w'.heap[b]? = w.heap[b]?) : To B w' p { s with kn := kn } :=
  ⟨by rw [show toC p { s with kn := kn } = toC p s by simp [toC, hl]]; exact (hk 0 _ (by decide) rfl).trans h.o, h.mf.keep (hk 1 _ (by decide) rfl), h.mc.keep (hk 2 _ (by decide) rfl), h.ls.keep fun b e => hk 3 b (by decide) e, h.od.keep fun b e => hk 4 b (by decide) e, h.rw.keep fun b e => hk 5 b (by decide) (by rw [ob_sl] at e; exact e), h.cs.keep fun b e => hk 6 b (by decide) (by rw [ob_sl] at e; exact e), h8, h.dis, h.base⟩
theorem To.setKn (h : To B w p s) {g : Nat} (eg : p.ak = some ⟨g, 0, none⟩) (c n : Nat) : To B (w.setCell ⟨g, c, none⟩ (.int .i64 (n : Int))) p { s with kn := s.kn.set c n } := by
  have hg : p.bk 7 = some g := by show obk p.ak = _; rw [eg]; rfl
  refine h.toKn _ (by simp) ?_ fun i b hi e => Below.heap_setCell _ _ _ _ (h.ne e hg hi)
  have := h.kn
  rw [eg] at this ⊢
  rw [List.length_set, ni_set]
  exact this.storeN (by rw [ni_len]) c n
/-- Of each column so many lines are known, from the front of the order on. -/
def KnO (s : Ts) (kn : List Nat) : Prop := kn.length = s.cols.length ∧ ∀ c, c < s.cols.length → kn.getD c 0 ≤ s.ls.length ∧ ∀ i, i < kn.getD c 0 → s.isK (s.ord.getD i 0) c
/-- What is compared is known. -/
def CpO (s : Ts) : Prop := ∀ i, i < s.ls.length → (s.ln i).cp ≤ s.cols.length ∧ ∀ c, c < (s.ln i).cp → s.isK i c
theorem KnO.set {kn : List Nat} (h : KnO s kn) {c n : Nat} (hc : c < s.cols.length) (hn : n ≤ s.ls.length) (hk : ∀ i, i < n → s.isK (s.ord.getD i 0) c) : KnO s (kn.set c n) := by
  refine ⟨by rw [List.length_set]; exact h.1, fun d hd => ?_⟩
  rw [set_getD (by rw [h.1]; exact hc)]
  by_cases e : d = c
  · subst e; rw [if_pos rfl]; exact ⟨hn, hk⟩
  · rw [if_neg e]; exact h.2 d hd
theorem Vi.toKn (V : Vi s) {kn : List Nat} (h : KnO s kn) : Vi { s with kn := kn } := { V with kl := h.1 }
theorem Ts.cel_long {u e : List Int} (h : 4096 < u.length + e.length) : s.cel u e = some [] := by unfold Ts.cel; rw [if_pos h]
theorem Ts.isK_long {i c : Nat} (h : 4096 < (s.wd i).length + (s.co c).length) : s.isK i c := by unfold Ts.isK; rw [Ts.cel_long h]; rfl
/-- What missingIn leaves. -/
def MiPost (B : Nat) (p : Tl) (s : Ts) (c most : Nat) (w : World) (e : Ending) (w' : World) : Prop :=
  ∃ (n : Nat) (r : Option (List Int)), e = .returned (.tuple #[.string (sp (r.getD [])), .bool r.isSome]) ∧ KnO s (s.kn.set c n) ∧ To B w' p { s with kn := s.kn.set c n } ∧ Bx p.has w w' ∧
    (r = none → ∀ i, i < s.ls.length → (s.wd i).length + (s.co c).length ≤ most → s.isK i c) ∧
    ∀ v, r = some v → v.length ≤ most ∧ (∃ i, i < s.ls.length ∧ v = s.wd i ++ s.co c ∧ ¬ s.isK i c) ∧ ∀ i, i < s.ls.length → ¬ s.isK i c → s.wd i ++ s.co c = v ∨ Ahd v (s.wd i ++ s.co c)
theorem Vi.ord_le (V : Vi s) {i j : Nat} (h : i ≤ j) (hj : j < s.ls.length) : (s.wd (s.ord.getD i 0)).length ≤ (s.wd (s.ord.getD j 0)).length := by
  rcases Nat.eq_or_lt_of_le h with e | e
  · subst e; exact Nat.le_refl _
  · rcases V.os i j e hj with g | ⟨g, _⟩ <;> omega
theorem Lex.appE : ∀ {a b : List Int} (e : List Int), a.length = b.length → Lex a b → Lex (a ++ e) (b ++ e)
  | [], _, _, _, h => by simp [Lex] at h
  | _ :: _, [], _, h, _ => by simp at h
  | x :: a, y :: b, e, hl, h => by
    simp only [Lex, List.cons_append] at h ⊢
    rcases h with h | ⟨e1, h⟩
    · exact .inl h
    · exact .inr ⟨e1, Lex.appE e (by simpa using hl) h⟩
theorem Ahd.appE {a b : List Int} (e : List Int) (h : Ahd a b) : Ahd (a ++ e) (b ++ e) := by
  rcases h with h | ⟨h, g⟩
  · exact .inl (by simp only [List.length_append]; omega)
  · exact .inr ⟨by simp only [List.length_append]; omega, g.appE e h⟩
/-- Up to n all are known, the n-th is not. -/
theorem mi_some (V : Vi s) {c n : Nat} (hn : n < s.ls.length) (hk : ∀ i, i < n → s.isK (s.ord.getD i 0) c) (h0 : ¬ s.isK (s.ord.getD n 0) c) :
    (∃ i, i < s.ls.length ∧ s.wd (s.ord.getD n 0) ++ s.co c = s.wd i ++ s.co c ∧ ¬ s.isK i c) ∧ ∀ i, i < s.ls.length → ¬ s.isK i c → s.wd i ++ s.co c = s.wd (s.ord.getD n 0) ++ s.co c ∨ Ahd (s.wd (s.ord.getD n 0) ++ s.co c) (s.wd i ++ s.co c) := by
  refine ⟨⟨_, V.om n hn, rfl, h0⟩, fun i hi hno => ?_⟩
  obtain ⟨q, hq, rfl⟩ := V.oa i hi
  rcases Nat.lt_trichotomy q n with h | h | h
  · exact absurd (hk q h) hno
  · subst h; exact .inl rfl
  · exact .inr ((V.os n q h hq).appE _)
theorem mi_none (V : Vi s) {c n most : Nat} (hk : ∀ i, i < n → s.isK (s.ord.getD i 0) c) (h0 : n < s.ls.length → most < (s.wd (s.ord.getD n 0)).length + (s.co c).length) : ∀ i, i < s.ls.length → (s.wd i).length + (s.co c).length ≤ most → s.isK i c := by
  intro i hi hle
  obtain ⟨q, hq, rfl⟩ := V.oa i hi
  rcases Nat.lt_or_ge q n with h | h
  · exact hk q h
  · have h1 := h0 (by omega)
    have h2 := V.ord_le h hq
    omega

set_option maxRecDepth 100000 in
set_option maxHeartbeats 4000000 in
theorem missingIn_any (h : To B w p s) (V : Vi s) (hkn : KnO s s.kn) (hcp : CpO s) {c most : Nat} (hc : c < s.cols.length) (hm : most ≤ 4096) :
    Calls Try.prog 45 #[.pointer (some ⟨p.b, 0, none⟩), .int .i64 (c : Int), .int .i64 (most : Int)] w (MiPost B p s c most w) := by
  have hck : c < s.kn.length := by rw [hkn.1]; exact hc
  obtain ⟨gk, ek, hkl1, hkl2, hkl3, k0, kf⟩ := own_at h.kn hck
  obtain ⟨g2, e2, -, -, hco2, -, -⟩ := own_at (i := 0) h.od (by rw [V.ol, V.len]; omega)
  have ho2 : s.ord.length ≤ p.co := by
    obtain ⟨_, _, _, ho3, _, _, _⟩ := own_at (i := 0) h.od (by rw [V.ol, V.len]; omega)
    exact ho3
  obtain ⟨hn0, hn1⟩ := hkn.2 c hc
  have hol := V.ol
  have hl2 := V.len2
  have c6 := h.c6
  have c8 := h.c8
  rw [ek] at c8
  have hck' : (c : Int) < (s.kn.length : Int) := by omega
  have hgk : p.bk 7 = some gk := by show obk p.ak = _; rw [ek]; rfl
  have hcc' : (c : Int) < (s.cols.length : Int) := by omega
  clear e2 g2
  generalize hn : s.kn.getD c 0 = n at *
  have HN := hide hn
  have HO := hide h
  have HV := hide V
  have HK := hide hkn
  have HC := hide hcp
  have H1 := hide hn1
  have hss : s.kn.set c n = s.kn := by
    rw [← hn, List.getD_eq_getElem?_getD, List.getElem?_eq_getElem hck]; exact List.set_getElem_self hck
  have HSS := hide hss
  have hnl : (n : Int) ≤ (s.ord.length : Int) := by omega
  have hob : s.ord.length ≤ 65537 := by omega
  have hOL := hide hol
  clear h V hkn hcp hn hn1 hss hol
  by_cases hcap : n = p.co
  · have HE := hide (show n = s.ls.length by have := unhide hOL; omega)
    have hnx : s.ord.length = n := by have := unhide hOL; have := unhide HE; omega
    rw [hnx] at c6
    subst hcap
    have hpost : ∀ q, MiPost B p s c most w (.returned (.tuple #[.string (sp []), .bool false])) (w.drewN q) := fun q =>
      ⟨p.co, none, rfl, by rw [unhide HSS]; exact unhide HK, by rw [unhide HSS]; exact (unhide HO).keep fun _ _ _ => rfl, (Bx.refl _ _).draws q, fun _ => mi_none (unhide HV) (unhide H1) (fun x => by have := unhide HE; omega), fun v hv => by cases hv⟩
    have HP := hide hpost
    clear hpost hnx
    go_enter Try.func45, Try.ntmps45
    go_wp2
    go_quiet (fail)
    go_wp2
    go_loopw [25] (fun iv wr => iv = .int .i64 0 ∧ ∃ q, wr = w.drewN q) (fun _ _ => 0)
    case atStart => exact ⟨rfl, _, rfl⟩
    case round =>
      obtain ⟨rfl, q, rfl⟩ := hrel
      go_wp2
      go_ret2
      exact unhide HP q
  · have hcap' : ¬ p.co = n := fun e => hcap e.symm
    have hcx : (n : Int) < (p.co : Int) := by omega
    go_enter Try.func45, Try.ntmps45
    go_wp2
    go_quiet (fail)
    go_wp2
    go_loopw [25] (fun iv wr => ∃ j : Nat, iv = .int .i64 (j : Int) ∧ n + j ≤ s.ord.length ∧ Hid (∀ i, i < n + j → s.isK (s.ord.getD i 0) c) ∧ Hid (To B wr p { s with kn := s.kn.set c (n + j) }) ∧ Hid (Bx p.has w wr)) (fun iv _ => s.ord.length - (intOf iv).toNat)
    case atStart => exact ⟨0, rfl, by omega, hide (unhide H1), hide (by rw [Nat.add_zero, unhide HSS]; exact (unhide HO).keep fun _ _ _ => rfl), hide ((Bx.refl _ _).draws _)⟩
    case round =>
      obtain ⟨j, rfl, hj, HA, HT, HX⟩ := hrel
      by_cases hlt : n + j < s.ord.length
      · have hO := unhide HT
        have hlt' : (j : Int) < (s.ord.length : Int) - (n : Int) := by omega
        have hlt2 : j < s.ord.length - n := by omega
        have hPl : s.ord.getD (n + j) 0 < s.ls.length := (unhide HV).om _ (by rw [← unhide hOL]; exact hlt)
        have hPl' : ((s.ord.getD (n + j) 0 : Nat) : Int) < (s.ls.length : Int) := by omega
        obtain ⟨g3, e3, -, -, -, k3, -⟩ := own_at (i := n + j) hO.od hlt
        injection e3 with e3
        have e4 : p.go = g3 := by injection e3
        subst e4
        have hKN := (unhide HK).set hc (show n + j ≤ s.ls.length by rw [← unhide hOL]; exact hj) (unhide HA)
        have hV2 := (unhide HV).toKn hKN
        have c4 := hO.c4
        have c7 := hO.c7
        have c8 := hO.c8
        rw [ek] at c8
        have hkl : (s.kn.set c (n + j)).length = s.kn.length := List.length_set
        rw [show ({ s with kn := s.kn.set c (n + j) } : Ts).kn.length = s.kn.length from hkl] at c8
        obtain ⟨l0, -, -, -, -⟩ := hO.lc hPl
        obtain ⟨gc, ea, -, q0⟩ := hO.cc hc
        rw [ea] at c7
        obtain ⟨gk', ek', -, -, -, k0', kf'⟩ := own_at (i := c) hO.kn (by rw [hkl]; omega)
        rw [ek] at ek'
        have e5 : gk = gk' := by injection ek' with ek'; injection ek'
        subst e5
        rw [set_getD (by omega), if_pos rfl] at k0'
        have hisk := fun q => isKnown_any (w := wr.drewN q) (hO.keep fun _ _ _ => rfl) hV2 hPl hc (fun hcp => (unhide HC _ hPl).2 c hcp)
        have hlen := hO.lnc
        have zu := sp_size (s.wd (s.ord.getD (n + j) 0))
        have ze := sp_size (s.co c)
        have lu := (unhide HV).wl1 hPl
        have le := ((unhide HV).cw _ (Vi.co_mem hc)).1
        have ec : ({ s with kn := s.kn.set c (n + j) } : Ts).cel (({ s with kn := s.kn.set c (n + j) } : Ts).wd (s.ord.getD (n + j) 0)) (({ s with kn := s.kn.set c (n + j) } : Ts).co c) = s.cel (s.wd (s.ord.getD (n + j) 0)) (s.co c) := rfl
        simp only [ec] at hisk
        have el : (({ s with kn := s.kn.set c (n + j) } : Ts).ln (s.ord.getD (n + j) 0)).wd = s.wd (s.ord.getD (n + j) 0) := rfl
        rw [el] at l0
        have eq : ({ s with kn := s.kn.set c (n + j) } : Ts).cols.getD c [] = s.co c := rfl
        rw [eq] at q0
        have e6 : ({ { s with kn := s.kn.set c (n + j) } with kn := (s.kn.set c (n + j)).set c (n + j + 1) } : Ts) = { s with kn := s.kn.set c (n + (j + 1)) } := by rw [List.set_set]; rfl
        have HKN := hide hKN
        have HB5 := hide (⟨7, hgk⟩ : p.has gk)
        have HPP := hide (rfl : s.ord.getD (n + j) 0 = s.ord.getD (n + j) 0)
        have HM := hide (fun (hno : ¬ s.isK (s.ord.getD (n + j) 0) c) => mi_some (unhide HV) (show n + j < s.ls.length by rw [← unhide hOL]; exact hlt) (unhide HA) hno)
        have HMN := hide (fun (h0 : most < (s.wd (s.ord.getD (n + j) 0)).length + (s.co c).length) => mi_none (most := most) (unhide HV) (unhide HA) (fun _ => h0))
        have HKP := hide (fun (hno : s.isK (s.ord.getD (n + j) 0) c) => (show ∀ i, i < n + (j + 1) → s.isK (s.ord.getD i 0) c from fun i hi => by
          by_cases e : i = n + j
          · subst e; exact hno
          · exact unhide HA i (by omega)))
        have HI := hide (show (s.cel (s.wd (s.ord.getD (n + j) 0)) (s.co c)).isSome = true ↔ s.isK (s.ord.getD (n + j) 0) c from Iff.rfl)
        have HOO := hide hO
        have HT1 := hide (fun (w1 : World) (h1 : To B w1 p { s with kn := s.kn.set c (n + j) }) => e6 ▸ h1.setKn ek c (n + j + 1))
        have HD1 := hide (fun (q : Nat) (w1 : World) (hb1 : Below (wr.drewN q).heap.size (wr.drewN q) w1) => (hO.keep (w' := wr.drewN q) fun _ _ _ => rfl).below hb1)
        have hblt := hO.o.lt
        clear hO hV2 ec el eq hKN e6
        generalize hR : s.cel (s.wd (s.ord.getD (n + j) 0)) (s.co c) = R at *
        clear hR
        generalize hu : s.wd (s.ord.getD (n + j) 0) = u at *
        generalize he : s.co c = e at *
        have HU := hide hu
        have HE := hide he
        clear hu he
        generalize s.ord.getD (n + j) 0 = P at *
        by_cases hq : most < u.length + e.length
        · have hq' : (most : Int) < (u.length : Int) + (e.length : Int) := by omega
          have HP : Hid (∀ q, MiPost B p s c most w (.returned (.tuple #[.string (sp []), .bool false])) (wr.drewN q)) := hide fun q =>
            ⟨n + j, none, rfl, unhide HKN, (unhide HOO).keep fun _ _ _ => rfl, (unhide HX).draws q, fun _ => by
              have := unhide HMN hq
              rw [unhide HE]; exact this, fun v hv => by cases hv⟩
          clear hq hisk
          go_wp2
          go_quiet (fail)
          go_wp2
          go_ret2
          exact unhide HP _
        · have hq' : ¬ (most : Int) < (u.length : Int) + (e.length : Int) := by omega
          clear hq HMN
          have hR : R.isSome = true ∨ R.isSome = false := by cases R <;> simp
          rcases hR with hR | hR
          · rw [hR] at hisk
            have HA1 := hide (unhide HKP ((unhide HI).1 hR))
            clear hR HM HI HKP
            go_wp2
            go_quiet (fail)
            go_wp2_with fail
            refine (hisk _).mono ?_
            rintro e1 w1 ⟨rfl, hb1⟩
            have hO1 := unhide HD1 _ _ hb1
            have d8 := hO1.c8
            rw [ek, show ({ s with kn := s.kn.set c (n + j) } : Ts).kn.length = s.kn.length from List.length_set] at d8
            obtain ⟨gk2, ek2, -, -, -, m0, mf⟩ := own_at (i := c) hO1.kn (by rw [show ({ s with kn := s.kn.set c (n + j) } : Ts).kn.length = s.kn.length from List.length_set]; exact hck)
            rw [ek] at ek2
            have e7 : gk = gk2 := by injection ek2 with ek2; injection ek2
            subst e7
            rw [set_getD (by omega), if_pos rfl] at m0
            have mfc := mf c
            have HT2 := hide (unhide HT1 _ hO1)
            have HX1 := hide (Bx.trans ((unhide HX).draws _) (Bx.of (X := p.has) hb1) (fun _ _ h => h))
            clear hO1 hisk c4 c7 c8 l0 q0 k0' kf' k3 mf
            go_wp2
            go_roundw
            case rel => exact ⟨j + 1, by go_num, hlt, HA1, hide (by first | exact unhide HT2 | (have := unhide HT2; push_cast at this; exact this)), hide ((unhide HX1).setCell (p := ⟨gk, c, none⟩) (unhide HB5) _)⟩
            case measure => simp [intOf]; omega
          · rw [hR] at hisk
            have hno : ¬ s.isK P c := fun h => by have := (unhide HI).2 h; rw [hR] at this; cases this
            have HP : Hid (∀ q w1, Below (wr.drewN q).heap.size (wr.drewN q) w1 → MiPost B p s c most w (.returned (.tuple #[.string (sp u ++ sp e), .bool true])) w1) := hide fun q w1 hb1 =>
              ⟨n + j, some (u ++ e), by rw [sp_app]; rfl, unhide HKN, unhide HD1 q _ hb1, Bx.trans ((unhide HX).draws q) (Bx.of (X := p.has) hb1) (fun _ _ h => h), (fun h => by cases h), fun v hv => by
                have hv' : u ++ e = v := Option.some.inj hv
                subst hv'
                obtain ⟨m1, m2⟩ := unhide HM hno
                rw [unhide HE]
                exact ⟨by rw [List.length_append]; omega, m1, m2⟩⟩
            clear hR HM HI HKP hno
            go_wp2
            go_quiet (fail)
            go_wp2_with fail
            refine (hisk _).mono ?_
            rintro e1 w1 ⟨rfl, hb1⟩
            clear hisk c4 c7 c8 l0 q0 k0' kf' k3
            go_wp2
            go_ret2
            exact unhide HP _ _ hb1
      · obtain hje : n + j = s.ord.length := by omega
        have hlt' : ¬ (j : Int) < (s.ord.length : Int) - (n : Int) := by omega
        have hlt2 : ¬ j < s.ord.length - n := by omega
        have HP : Hid (MiPost B p s c most w (.returned (.tuple #[.string (sp []), .bool false])) wr) := hide
          ⟨n + j, none, rfl, (unhide HK).set hc (show n + j ≤ s.ls.length by rw [← unhide hOL]; exact hj) (unhide HA), unhide HT, unhide HX, fun _ => mi_none (unhide HV) (unhide HA) (fun x => by have := unhide hOL; omega), fun v hv => by cases hv⟩
        clear hje
        go_wp2
        go_ret2
        exact unhide HP
end

end Go.Proofs.Ytepmdnggiajkbaa

/-
  The program's table: the first word of all columns whose cell is not known.
-/
namespace Go.Proofs.Ytepmdnggiajkbaa
open Go.RowKit

section
variable {B : Nat} {w w' : World} {p : Tl} {s : Ts}
/-- The first missing word of the first columns. -/
def MinC (s : Ts) (C : Nat) (r : Option (List Int)) : Prop :=
  (r = none → ∀ i c, i < s.ls.length → c < C → s.isK i c) ∧
  ∀ v, r = some v → v.length ≤ 4096 ∧ (∃ i c, i < s.ls.length ∧ c < C ∧ v = s.wd i ++ s.co c ∧ ¬ s.isK i c) ∧ ∀ i c, i < s.ls.length → c < C → ¬ s.isK i c → s.wd i ++ s.co c = v ∨ Ahd v (s.wd i ++ s.co c)
def mxO (r : Option (List Int)) : Nat := match r with | none => 4096 | some v => v.length
theorem minC_zero (s : Ts) : MinC s 0 none := ⟨fun _ _ c _ h => by omega, fun v h => by cases h⟩
theorem minC_none {C : Nat} {r : Option (List Int)} (h : MinC s C r) (g : ∀ i, i < s.ls.length → (s.wd i).length + (s.co C).length ≤ mxO r → s.isK i C) : MinC s (C + 1) r := by
  refine ⟨fun e i c hi hc => ?_, fun v e => ?_⟩
  · by_cases hC : c = C
    · subst hC e
      by_cases hl : (s.wd i).length + (s.co c).length ≤ 4096
      · exact g i hi hl
      · exact Ts.isK_long (by omega)
    · exact h.1 e i c hi (by omega)
  · obtain ⟨h1, ⟨i, c, h2, h3, h4⟩, h5⟩ := h.2 v e
    refine ⟨h1, ⟨i, c, h2, by omega, h4⟩, fun i c hi hc hno => ?_⟩
    by_cases hC : c = C
    · subst hC e
      right; left
      rw [List.length_append]
      rcases Nat.lt_or_ge v.length ((s.wd i).length + (s.co c).length) with q | q
      · exact q
      · exact absurd (g i hi q) hno
    · exact h5 i c hi (by omega) hno
theorem minC_take {C : Nat} {r : Option (List Int)} {v : List Int} (h : MinC s C r) (hl : v.length ≤ 4096) (g1 : ∃ i, i < s.ls.length ∧ v = s.wd i ++ s.co C ∧ ¬ s.isK i C) (g2 : ∀ i, i < s.ls.length → ¬ s.isK i C → s.wd i ++ s.co C = v ∨ Ahd v (s.wd i ++ s.co C))
    (hr : ∀ u, r = some u → Ahd v u) : MinC s (C + 1) (some v) := by
  refine ⟨(fun e => by cases e), fun u e => ?_⟩
  cases e
  obtain ⟨i0, a1, a2, a3⟩ := g1
  refine ⟨hl, ⟨i0, C, a1, by omega, a2, a3⟩, fun i c hi hc hno => ?_⟩
  by_cases hC : c = C
  · subst hC; exact g2 i hi hno
  · cases r with
    | none => exact absurd (h.1 rfl i c hi (by omega)) hno
    | some u =>
      have hu := hr u rfl
      rcases (h.2 u rfl).2.2 i c hi (by omega) hno with q | q
      · rw [q]; exact .inr hu
      · exact .inr (hu.tra q)
theorem minC_stay {C : Nat} {u v : List Int} (h : MinC s C (some u)) (g2 : ∀ i, i < s.ls.length → ¬ s.isK i C → s.wd i ++ s.co C = v ∨ Ahd v (s.wd i ++ s.co C)) (hr : ¬ Ahd v u) : MinC s (C + 1) (some u) := by
  refine ⟨(fun e => by cases e), fun u' e => ?_⟩
  cases e
  obtain ⟨h1, ⟨i, c, h2, h3, h4⟩, h5⟩ := h.2 u rfl
  refine ⟨h1, ⟨i, c, h2, by omega, h4⟩, fun i c hi hc hno => ?_⟩
  by_cases hC : c = C
  · subst hC
    have hv : u = v ∨ Ahd u v := by
      rcases Ahd.tot u v with q | q | q
      · exact .inr q
      · exact .inl q
      · exact absurd q hr
    rcases g2 i hi hno with q | q
    · rw [q]; rcases hv with e | e
      · exact .inl e.symm
      · exact .inr e
    · rcases hv with e | e
      · subst e; exact .inr q
      · exact .inr (e.tra q)
  · exact h5 i c hi (by omega) hno
theorem minC_sb (V : Vi s) {C : Nat} (hC : C ≤ s.cols.length) {v : List Int} (h : MinC s C (some v)) : Sb v := by
  obtain ⟨_, ⟨i, c, h2, h3, h4, _⟩, _⟩ := h.2 v rfl
  rw [h4]; exact (V.sb i).app (V.cb (Vi.co_mem (by omega)))
/-- What firstMissing leaves. -/
def FmPost (B : Nat) (p : Tl) (s : Ts) (w : World) (e : Ending) (w' : World) : Prop :=
  ∃ (kn : List Nat) (r : Option (List Int)), e = .returned (.tuple #[.string (sp (r.getD [])), .bool r.isSome]) ∧ KnO s kn ∧ To B w' p { s with kn := kn } ∧ Bx p.has w w' ∧ MinC s s.cols.length r

set_option maxRecDepth 100000 in
set_option maxHeartbeats 4000000 in
theorem firstMissing_any (h : To B w p s) (V : Vi s) (hkn : KnO s s.kn) (hcp : CpO s) :
    Calls Try.prog 22 #[.pointer (some ⟨p.b, 0, none⟩)] w (FmPost B p s w) := by
  have HO := hide h
  have HV := hide V
  have HK := hide hkn
  have HC := hide hcp
  have c7 := h.c7
  have hcl := V.cl
  clear h V hkn hcp
  go_enter Try.func22, Try.ntmps22
  go_wp2
  go_loopw [2, 3, 4, 13] (fun a b m iv wr => ∃ (C : Nat) (r : Option (List Int)) (kn : List Nat), iv = .int .i64 (C : Int) ∧ a = .string (sp (r.getD [])) ∧ b = .bool r.isSome ∧ m = .int .i64 (mxO r : Nat) ∧ C ≤ s.cols.length ∧ Hid (KnO s kn) ∧ Hid (To B wr p { s with kn := kn }) ∧ Hid (Bx p.has w wr) ∧ Hid (MinC s C r)) (fun _ _ _ iv _ => s.cols.length - (intOf iv).toNat)
  case atStart => exact ⟨0, none, s.kn, rfl, rfl, rfl, rfl, Nat.zero_le _, HK, HO, hide (Bx.refl _ _), hide (minC_zero s)⟩
  case round =>
    obtain ⟨C, r, kn, rfl, rfl, rfl, rfl, hC, HKN, HT, HX, HM⟩ := hrel
    by_cases hlt : C < s.cols.length
    · have hlt' : (C : Int) < (s.cols.length : Int) := by omega
      have hmx : mxO r ≤ 4096 := by
        cases r with
        | none => exact Nat.le_refl _
        | some v => exact ((unhide HM).2 v rfl).1
      have hmi := missingIn_any (s := { s with kn := kn }) (most := mxO r) (unhide HT) ((unhide HV).toKn (unhide HKN)) (unhide HKN) (unhide HC) hlt hmx
      go_wp2_with fail
      refine hmi.mono ?_
      rintro e w1 ⟨n, r', rfl, k1, k2, k3, k4, k5⟩
      have HK1 : Hid (KnO s (kn.set C n)) := hide k1
      have HT1 : Hid (To B w1 p { s with kn := kn.set C n }) := hide k2
      have HX1 := hide (Bx.trans (unhide HX) k3 (fun _ _ h => h))
      have HN := hide (fun (e : r' = none) => minC_none (unhide HM) (k4 e))
      clear hmi k1 k2 k3 k4 c7 HKN HT HX
      cases r' with
      | none =>
        have HN1 := hide (unhide HN rfl)
        clear HN k5 HM
        cases r with
        | none =>
          simp only [Option.isSome_none, Option.getD_none, mxO]
          go_wp2
          go_roundw
          case rel => exact ⟨C + 1, none, kn.set C n, by go_num, rfl, rfl, rfl, hlt, HK1, HT1, HX1, HN1⟩
          case measure => simp [intOf]; omega
        | some u =>
          simp only [Option.isSome_none, Option.getD_none, Option.isSome_some, Option.getD_some, mxO]
          go_wp2
          go_roundw
          case rel => exact ⟨C + 1, some u, kn.set C n, by go_num, rfl, rfl, rfl, hlt, HK1, HT1, HX1, HN1⟩
          case measure => simp [intOf]; omega
      | some v =>
        obtain ⟨m1, m2, m3⟩ := k5 v rfl
        have zv := sp_size v
        clear HN k5
        cases r with
        | none =>
          have HN1 := hide (minC_take (unhide HM) (by simpa [mxO] using m1) m2 m3 (fun u hu => by cases hu))
          have hv : v.length ≤ 4096 := by simpa [mxO] using m1
          simp only [Option.isSome_none, Option.getD_none, Option.isSome_some, Option.getD_some, mxO]
          clear m1 m2 m3 HM
          go_wp2
          go_roundw
          case rel => exact ⟨C + 1, some v, kn.set C n, by go_num, rfl, rfl, rfl, hlt, HK1, HT1, HX1, HN1⟩
          case measure => simp [intOf]; omega
        | some u =>
          have hv : v.length ≤ 4096 := Nat.le_trans m1 hmx
          have hsu := minC_sb (unhide HV) (Nat.le_of_lt hlt) (unhide HM)
          have hsv : Sb v := by
            obtain ⟨i0, a1, a2, -⟩ := m2
            rw [a2]; exact ((unhide HV).sb i0).app ((unhide HV).cb (Vi.co_mem hlt))
          have hcmp := spcmp_any v u w1 hsv hsu
          by_cases ha : Ahd v u
          · have HN1 := hide (minC_take (unhide HM) hv m2 m3 (fun u' hu => by cases hu; exact ha))
            have hz := cmS_neg.2 ha
            simp only [Option.isSome_some, Option.getD_some, mxO]
            clear m1 m2 m3 HM ha hsu hsv hmx
            generalize cmS v u = z at *
            go_wp2_with (go_at_call 46; refine hcmp.mono ?_; rintro e w2 ⟨rfl, hw2⟩; subst hw2)
            go_roundw
            case rel => exact ⟨C + 1, some v, kn.set C n, by go_num, rfl, rfl, rfl, hlt, HK1, HT1, HX1, HN1⟩
            case measure => simp [intOf]; omega
          · have HN1 := hide (minC_stay (unhide HM) m3 ha)
            have hz : ¬ cmS v u < 0 := fun h => ha (cmS_neg.1 h)
            simp only [Option.isSome_some, Option.getD_some, mxO]
            clear m1 m2 m3 HM ha hsu hsv hmx
            generalize cmS v u = z at *
            go_wp2_with (go_at_call 46; refine hcmp.mono ?_; rintro e w2 ⟨rfl, hw2⟩; subst hw2)
            go_roundw
            case rel => exact ⟨C + 1, some u, kn.set C n, by go_num, rfl, rfl, rfl, hlt, HK1, HT1, HX1, HN1⟩
            case measure => simp [intOf]; omega
    · obtain rfl : C = s.cols.length := by omega
      have HP : Hid (FmPost B p s w (.returned (.tuple #[.string (sp (r.getD [])), .bool r.isSome])) wr) := hide ⟨kn, r, rfl, unhide HKN, unhide HT, unhide HX, unhide HM⟩
      go_wp2
      go_ret2
      exact unhide HP
end

end Go.Proofs.Ytepmdnggiajkbaa

/-
  The program's table: classes of lines.
-/
namespace Go.Proofs.Ytepmdnggiajkbaa
open Go.RowKit

/-- What the numbers of classes stand for. -/
structure ClO (cls : List (Nat × List Int)) (G : Nat → List (List Int)) : Prop where
  g0 : G 0 = []
  gi : ∀ a b, a ≤ cls.length → b ≤ cls.length → G a = G b → a = b
  gs : ∀ d, d < cls.length → (cls.getD d (0, [])).1 ≤ cls.length ∧ G (d + 1) = G (cls.getD d (0, [])).1 ++ [(cls.getD d (0, [])).2]
theorem snoc_inj {α : Type} {a b : List α} {x y : α} (h : a ++ [x] = b ++ [y]) : a = b ∧ x = y := by
  have := List.append_inj' h rfl
  exact ⟨this.1, by simpa using this.2⟩
theorem ClO.zero : ClO [] (fun _ => []) := ⟨rfl, fun a b ha hb _ => by simp at ha hb; omega, fun d hd => by simp at hd⟩
theorem ClO.at {cls : List (Nat × List Int)} {G : Nat → List (List Int)} (h : ClO cls G) {x : Nat × List Int} (hx : x ∈ cls) : cls.idxOf x + 1 ≤ cls.length ∧ G (cls.idxOf x + 1) = G x.1 ++ [x.2] := by
  have hl := List.idxOf_lt_length_of_mem hx
  have := (h.gs _ hl).2
  rw [List.getD_eq_getElem?_getD, List.getElem?_eq_getElem hl] at this
  rw [show (some cls[cls.idxOf x]).getD (0, []) = x from List.getElem_idxOf hl] at this
  exact ⟨hl, this⟩
theorem ClO.add {cls : List (Nat × List Int)} {G : Nat → List (List Int)} (h : ClO cls G) {x : Nat × List Int} (hx : x ∉ cls) (hc : x.1 ≤ cls.length) :
    ClO (cls ++ [x]) (fun d => if d = cls.length + 1 then G x.1 ++ [x.2] else G d) := by
  have key : ∀ d, d ≤ cls.length → G d ≠ G x.1 ++ [x.2] := fun d hd e => by
    rcases Nat.eq_zero_or_pos d with c | c
    · subst c; rw [h.g0] at e; simp at e
    · obtain ⟨d, rfl⟩ : ∃ k, d = k + 1 := ⟨d - 1, by omega⟩
      obtain ⟨a, b⟩ := h.gs d hd
      rw [b] at e
      obtain ⟨e1, e2⟩ := snoc_inj e
      have e3 := h.gi _ _ a hc e1
      refine hx ?_
      have : cls.getD d (0, []) = x := Prod.ext e3 e2
      rw [← this, List.getD_eq_getElem?_getD, List.getElem?_eq_getElem hd]
      exact List.getElem_mem hd
  refine ⟨by rw [if_neg (by omega)]; exact h.g0, fun a b ha hb e => ?_, fun d hd => ?_⟩
  · simp only [List.length_append, List.length_singleton] at ha hb
    by_cases ca : a = cls.length + 1 <;> by_cases cb : b = cls.length + 1
    · omega
    · rw [if_pos ca, if_neg cb] at e; exact absurd e.symm (key b (by omega))
    · rw [if_neg ca, if_pos cb] at e; exact absurd e (key a (by omega))
    · rw [if_neg ca, if_neg cb] at e; exact h.gi a b (by omega) (by omega) e
  · simp only [List.length_append, List.length_singleton] at hd ⊢
    by_cases c : d = cls.length
    · subst c
      have e : (cls ++ [x]).getD cls.length (0, []) = x := by rw [List.getD_eq_getElem?_getD, List.getElem?_append_right (Nat.le_refl _)]; simp
      rw [e, if_pos rfl, if_neg (by omega)]
      exact ⟨by omega, rfl⟩
    · have e : (cls ++ [x]).getD d (0, []) = cls.getD d (0, []) := by rw [List.getD_eq_getElem?_getD, List.getElem?_append_left (by omega), List.getD_eq_getElem?_getD]
      obtain ⟨a, b⟩ := h.gs d (by omega)
      rw [e, if_neg (by omega), if_neg (by omega)]
      exact ⟨by omega, b⟩
section
variable {B : Nat} {w w' : World} {p : Tl} {s : Ts}
theorem clsF_add {cls : List (Nat × List Int)} {x : Nat × List Int} (hx : x ∉ cls) : (fun y => if y = x then some (Value.int .i64 ((cls.length : Int) + 1)) else clsF cls y) = clsF (cls ++ [x]) := by
  funext y
  unfold clsF
  by_cases e : y = x
  · subst e
    rw [if_pos rfl, if_pos (by simp), List.idxOf_append, if_neg hx]
    simp
  · rw [if_neg e]
    by_cases m : y ∈ cls
    · rw [if_pos m, if_pos (by simp [m]), List.idxOf_append, if_pos m]
    · rw [if_neg m, if_neg (by simp [m, e])]
theorem To.toCls (h : To B w p s) (cls : List (Nat × List Int)) (h2 : FMap 90 ekP okP w' p.mc cls.length (clsF cls)) (hk : ∀ i b, i ≠ 2 → p.bk i = some b → w'.heap[b]? = w.heap[b]?) : To B w' p { s with cls := cls } :=
  ⟨(hk 0 _ (by decide) rfl).trans h.o, h.mf.keep (hk 1 _ (by decide) rfl), h2, h.ls.keep fun b e => hk 3 b (by decide) e, h.od.keep fun b e => hk 4 b (by decide) e, h.rw.keep fun b e => hk 5 b (by decide) (by rw [ob_sl] at e; exact e), h.cs.keep fun b e => hk 6 b (by decide) (by rw [ob_sl] at e; exact e), h.kn.keep fun b e => hk 7 b (by decide) (by rw [ob_sl] at e; exact e), h.dis, h.base⟩
/-- What classBehind leaves. -/
def CbPost (B : Nat) (p : Tl) (s : Ts) (x : Nat × List Int) (w : World) (e : Ending) (w' : World) : Prop :=
  ∃ cls, e = .returned (.int .i64 ((cls.idxOf x + 1 : Nat) : Int)) ∧ To B w' p { s with cls := cls } ∧ Bx p.has w w' ∧ x ∈ cls ∧ (cls = s.cls ∨ x ∉ s.cls ∧ cls = s.cls ++ [x])
set_option maxRecDepth 100000 in
set_option maxHeartbeats 4000000 in
theorem classBehind_any (h : To B w p s) {c : Nat} {x : List Int} (hx : okP (c, x)) (hl : s.cls.length ≤ 100000000) :
    Calls Try.prog 48 #[.pointer (some ⟨p.b, 0, none⟩), ekP (c, x)] w (CbPost B p s (c, x) w) := by
  have hb0 := ballo w (.cells #[.int .i64 (c : Int), .string (sp x)] 90)
  have hA := h.below hb0
  have c9 := hA.c9
  have HO := hide h
  have HA := hide hA
  have hlk : ∀ q, (Instr.lookup 60 (.map (some p.mc)) (.agg #[.int .i64 (c : Int), .string (sp x)]) true).run Try.prog ((w.alloc (.cells #[.int .i64 (c : Int), .string (sp x)] 90)).drewN q) = .ok (.tuple #[(clsF s.cls (c, x)).getD (.int .i64 0), .bool (clsF s.cls (c, x)).isSome]) ((w.alloc (.cells #[.int .i64 (c : Int), .string (sp x)] 90)).drewN q) := fun q =>
    FMap.look keysP (FMap.keep (w' := (w.alloc (.cells #[.int .i64 (c : Int), .string (sp x)] 90)).drewN q) hA.mc rfl) Try.underlying60 (Try.zeroValue3 _) hx
  have hml : ∀ q, (Builtin.len_ #[60] 3 #[.map (some p.mc)]).run Try.prog ((w.alloc (.cells #[.int .i64 (c : Int), .string (sp x)] 90)).drewN q) = .ok (.int .i64 s.cls.length) ((w.alloc (.cells #[.int .i64 (c : Int), .string (sp x)] 90)).drewN q) := fun q =>
    FMap.len (FMap.keep (w' := (w.alloc (.cells #[.int .i64 (c : Int), .string (sp x)] 90)).drewN q) hA.mc rfl) Try.underlying60 _
  have HB := hide hb0
  have HX := hide hx
  unfold ekP
  clear h hA hb0 hx
  by_cases hm : (c, x) ∈ s.cls
  · have e1 : clsF s.cls (c, x) = some (.int .i64 ((s.cls.idxOf (c, x) + 1 : Nat) : Int)) := by unfold clsF; rw [if_pos hm]
    rw [e1] at hlk
    simp only [Option.getD_some, Option.isSome_some] at hlk
    have HP : Hid (∀ q, CbPost B p s (c, x) w (.returned (.int .i64 ((s.cls.idxOf (c, x) + 1 : Nat) : Int))) ((w.alloc (.cells #[.int .i64 (c : Int), .string (sp x)] 90)).drewN q)) := hide fun q =>
      ⟨s.cls, rfl, (unhide HA).keep fun _ _ _ => rfl, (Bx.of (unhide HB)).draws q, hm, .inl rfl⟩
    clear e1 hm
    generalize ((s.cls.idxOf (c, x) + 1 : Nat) : Int) = N at *
    go_enter Try.func48, Try.ntmps48
    go_wp2
    go_quiet (fail)
    go_wp2
    go_ret
    exact unhide HP _
  · have e1 : clsF s.cls (c, x) = none := by unfold clsF; rw [if_neg hm]
    rw [e1] at hlk
    simp only [Option.getD_none, Option.isSome_none] at hlk
    have hup : ∀ q, ∃ w2, (Instr.mapUpdate 60 (.map (some p.mc)) (.agg #[.int .i64 (c : Int), .string (sp x)]) (.int .i64 ((s.cls.length : Int) + 1))).run Try.prog ((w.alloc (.cells #[.int .i64 (c : Int), .string (sp x)] 90)).drewN q) = .ok () w2 ∧ CbPost B p s (c, x) w (.returned (.int .i64 ((s.cls.length : Int) + 1))) w2 := fun q => by
      obtain ⟨w2, r1, r2, r3⟩ := FMap.put keysP (FMap.keep (w' := (w.alloc (.cells #[.int .i64 (c : Int), .string (sp x)] 90)).drewN q) (unhide HA).mc rfl) Try.underlying60 (by unfold maxLen; omega) (unhide HX) (.int .i64 ((s.cls.length : Int) + 1))
      refine ⟨w2, r1, s.cls ++ [(c, x)], ?_, ?_, ?_, by simp, .inr ⟨hm, rfl⟩⟩
      · rw [List.idxOf_append, if_neg hm]; simp
      · refine (unhide HA).toCls (s.cls ++ [(c, x)]) ?_ fun i b hi e => ?_
        · rw [e1, clsF_add hm] at r2
          simpa using r2
        · have hne : b ≠ p.mc := fun e2 => hi ((unhide HA).dis i 2 b e (by rw [e2]; rfl))
          have := (r3.grown).block b ((unhide HA).lt e).2 (by simpa using hne)
          exact this
      · exact Bx.turned ((Bx.of (unhide HB)).draws q) r3 ⟨2, rfl⟩
    obtain ⟨W2, hW2⟩ := Classical.axiomOfChoice hup
    have hr := fun q => (hW2 q).1
    have HU := hide fun q => (hW2 q).2
    clear e1 hm hup hW2
    go_enter Try.func48, Try.ntmps48
    go_wp2
    go_quiet (fail)
    go_wp2
    go_region
    go_wp2
    go_ret
    exact unhide HU _
end

end Go.Proofs.Ytepmdnggiajkbaa

/-
  The program's table: what is seen of it stays; classes, compared lines.
-/
namespace Go.Proofs.Ytepmdnggiajkbaa
open Go.RowKit

/-- What is seen is the same. -/
structure Sv (s s' : Ts) : Prop where
  kind : s'.kind = s.kind
  K : s'.K = s.K
  o : s'.o = s.o
  f : s'.f = s.f
  nf : s'.nf = s.nf
  rows : s'.rows = s.rows
  ord : s'.ord = s.ord
  cols : s'.cols = s.cols
  len : s'.ls.length = s.ls.length
  wd : ∀ i, s'.wd i = s.wd i
  ed : ∀ i, (s'.ln i).ed = (s.ln i).ed
theorem Sv.refl (s : Ts) : Sv s s := ⟨rfl, rfl, rfl, rfl, rfl, rfl, rfl, rfl, rfl, fun _ => rfl, fun _ => rfl⟩
theorem Sv.trans {a b c : Ts} (h : Sv a b) (g : Sv b c) : Sv a c :=
  ⟨g.kind.trans h.kind, g.K.trans h.K, g.o.trans h.o, g.f.trans h.f, g.nf.trans h.nf, g.rows.trans h.rows, g.ord.trans h.ord, g.cols.trans h.cols, g.len.trans h.len, fun i => (g.wd i).trans (h.wd i), fun i => (g.ed i).trans (h.ed i)⟩
section
variable {s s' : Ts}
theorem Sv.rw (h : Sv s s') (i : Nat) : s'.rw i = s.rw i := by unfold Ts.rw; rw [h.rows]
theorem Sv.co (h : Sv s s') (i : Nat) : s'.co i = s.co i := by unfold Ts.co; rw [h.cols]
theorem Sv.cel (h : Sv s s') (u e : List Int) : s'.cel u e = s.cel u e := by unfold Ts.cel; rw [h.f, h.kind]
theorem Sv.isK (h : Sv s s') (i c : Nat) : s'.isK i c ↔ s.isK i c := by unfold Ts.isK; rw [h.cel, h.wd, h.co]
theorem Vi.to (V : Vi s) (h : Sv s s') (hk : s'.kn.length = s'.cols.length) : Vi s' where
  k1 := by simp only [h.K]; exact V.k1
  k2 := by simp only [h.K]; exact V.k2
  kd := by simp only [h.kind]; exact V.kd
  len := by simp only [h.len, h.K, h.rows]; exact V.len
  rl := by simp only [h.rows]; exact V.rl
  r0 := by simp only [h.wd]; exact V.r0
  rg := by simp only [h.rows, h.rw, h.K, h.ed]; exact V.rg
  ed := by simp only [h.rows, h.K, h.wd, h.rw]; exact V.ed
  no := by simp only [h.rows, h.ed]; exact V.no
  nd := by simp only [h.len, h.wd]; exact V.nd
  sy := by simp only [h.wd, h.K]; exact V.sy
  wl := by simp only [h.len, h.wd, h.rows]; exact V.wl
  ol := by simp only [h.ord, h.len]; exact V.ol
  om := by simp only [h.len, h.ord]; exact V.om
  os := by simp only [h.len, h.wd, h.ord]; exact V.os
  oa := by simp only [h.len, h.ord]; exact V.oa
  cl := by simp only [h.cols]; exact V.cl
  cw := by simp only [h.cols, h.K]; exact V.cw
  cn := by simp only [h.cols]; exact V.cn
  kl := hk
  fw := by rw [h.f, h.K, h.kind]; exact V.fw
theorem KnO.to (h : Sv s s') {kn : List Nat} (k : KnO s kn) : KnO s' kn := by
  refine ⟨by rw [h.cols]; exact k.1, fun c hc => ?_⟩
  rw [h.cols] at hc
  obtain ⟨a, b⟩ := k.2 c hc
  exact ⟨by rw [h.len]; exact a, fun i hi => by rw [h.isK, h.ord]; exact b i hi⟩
theorem MinC.to (h : Sv s s') {C : Nat} {r : Option (List Int)} (k : MinC s C r) : MinC s' C r := by
  unfold MinC
  simp only [h.len, h.isK, h.wd, h.co]
  exact k
end
/-- What a cell says are bytes. -/
theorem Vi.celS {s : Ts} (V : Vi s) {u e x : List Int} (h : s.cel u e = some x) : okS x := by
  unfold Ts.cel at h
  split at h
  · cases h; exact ⟨Sb.nil, by simp⟩
  · cases hf : s.f (u ++ e) with
    | none => rw [hf] at h; cases h
    | some o =>
      rw [hf] at h
      obtain ⟨_, _, h1, h2, _, _⟩ := V.fw _ _ hf
      have h' : (if s.kind = 2 then o.drop u.length else o) = x := Option.some.inj h
      subst h'
      split
      · exact ⟨h1.drop _, by rw [List.length_drop]; omega⟩
      · exact ⟨h1, by omega⟩
/-- The cells of a line, by the first columns. -/
def Ts.cst (s : Ts) (i n : Nat) : List (List Int) := (List.range n).map fun c => (s.cel (s.wd i) (s.co c)).getD []
theorem Ts.cst_succ (s : Ts) (i n : Nat) : s.cst i (n + 1) = s.cst i n ++ [(s.cel (s.wd i) (s.co n)).getD []] := by unfold Ts.cst; rw [List.range_succ, List.map_append]; rfl
theorem Sv.cst {s s' : Ts} (h : Sv s s') (i n : Nat) : s'.cst i n = s.cst i n := by unfold Ts.cst; simp only [h.cel, h.wd, h.co]
/-- Each line's class stands for its cells. -/
def LnO (s : Ts) (G : Nat → List (List Int)) : Prop := ∀ i, i < s.ls.length → (s.ln i).cl ≤ s.cls.length ∧ G (s.ln i).cl = s.cst i (s.ln i).cp
/-- What holds of what is not seen. -/
structure Hd (s : Ts) : Prop where
  kn : KnO s s.kn
  cp : CpO s
  cl : ∃ G, ClO s.cls G ∧ LnO s G
  sm : s.cls.length ≤ (s.ls.map Ln.cp).sum
/-- All lines are compared by all columns. -/
def Ful (s : Ts) : Prop := ∀ i, i < s.ls.length → (s.ln i).cp = s.cols.length
theorem Hd.alike {s : Ts} (h : Hd s) (F : Ful s) {i j : Nat} (hi : i < s.ls.length) (hj : j < s.ls.length) : (s.ln i).cl = (s.ln j).cl ↔ s.cst i s.cols.length = s.cst j s.cols.length := by
  obtain ⟨G, g1, g2⟩ := h.cl
  obtain ⟨a1, a2⟩ := g2 i hi
  obtain ⟨b1, b2⟩ := g2 j hj
  rw [F i hi] at a2
  rw [F j hj] at b2
  constructor
  · intro e; rw [← a2, ← b2, e]
  · intro e; exact g1.gi _ _ a1 b1 (by rw [a2, b2, e])
theorem sum_set : ∀ (l : List Ln) (i : Nat) (x : Ln), i < l.length → ((l.set i x).map Ln.cp).sum + (l.getD i ln0).cp = (l.map Ln.cp).sum + x.cp
  | [], i, x, h => by simp at h
  | y :: l, 0, x, _ => by simp; omega
  | y :: l, i + 1, x, h => by
    have := sum_set l i x (by simpa using h)
    simp only [List.set_cons_succ, List.map_cons, List.sum_cons, List.getD_cons_succ]
    omega
theorem sum_le {N : Nat} : ∀ (l : List Ln), (∀ x ∈ l, x.cp ≤ N) → (l.map Ln.cp).sum ≤ l.length * N
  | [], _ => by simp
  | x :: l, h => by
    have h1 := h x (by simp)
    have h2 := sum_le l fun y hy => h y (by simp [hy])
    simp only [List.map_cons, List.sum_cons, List.length_cons, Nat.add_mul]; omega
theorem Hd.many {s : Ts} (h : Hd s) (V : Vi s) : s.cls.length ≤ 100000000 := by
  have h1 : (s.ls.map Ln.cp).sum ≤ s.ls.length * 1024 := sum_le _ fun x hx => by
    obtain ⟨i, hi, rfl⟩ := List.getElem_of_mem hx
    have := (h.cp i hi).1
    rw [show s.ln i = s.ls[i] by unfold Ts.ln; rw [List.getD_eq_getElem?_getD, List.getElem?_eq_getElem hi]; rfl] at this
    have := V.cl
    omega
  have h2 := V.len2
  have h3 := h.sm
  have h4 : s.ls.length * 1024 ≤ 65537 * 1024 := Nat.mul_le_mul_right _ h2
  omega

end Go.Proofs.Ytepmdnggiajkbaa

/-
  The program's table: compareAll.
-/
namespace Go.Proofs.Ytepmdnggiajkbaa
open Go.RowKit

section
variable {B : Nat} {w w' : World} {p : Tl} {s : Ts}
theorem To.toLs (h : To B w p s) (L : List Ln) (hl : L.length = s.ls.length) (h4 : OwnG 54 4 lnE w' B (.slice (some ⟨p.gl, 0, none⟩) L.length p.cl) L) (hk : ∀ i b, i ≠ 3 → p.bk i = some b → w'.heap[b]? = w.heap[b]?) : To B w' p { s with ls := L } :=
  ⟨by rw [show toC p { s with ls := L } = toC p s by simp [toC, hl]]; exact (hk 0 _ (by decide) rfl).trans h.o, h.mf.keep (hk 1 _ (by decide) rfl), h.mc.keep (hk 2 _ (by decide) rfl), h4, h.od.keep fun b e => hk 4 b (by decide) e, h.rw.keep fun b e => hk 5 b (by decide) (by rw [ob_sl] at e; exact e), h.cs.keep fun b e => hk 6 b (by decide) (by rw [ob_sl] at e; exact e), h.kn.keep fun b e => hk 7 b (by decide) (by rw [ob_sl] at e; exact e), h.dis, h.base⟩
theorem ln_set {L : List Ln} {i : Nat} {x : Ln} (hi : i < L.length) (j : Nat) : (L.set i x).getD j ln0 = if j = i then x else L.getD j ln0 := by
  rw [List.getD_eq_getElem?_getD, List.getD_eq_getElem?_getD, List.getElem?_set]
  by_cases e : i = j
  · subst e; simp [hi]
  · rw [if_neg e, if_neg (Ne.symm e)]
/-- A line's class and how far it is compared are new. -/
def Ts.stp (s : Ts) (i cp cl : Nat) (cls : List (Nat × List Int)) : Ts := { s with cls := cls, ls := s.ls.set i { s.ln i with cp := cp, cl := cl } }
theorem Ts.stp_ln {s : Ts} {i cp cl : Nat} {cls : List (Nat × List Int)} (hi : i < s.ls.length) (j : Nat) : (s.stp i cp cl cls).ln j = if j = i then { s.ln i with cp := cp, cl := cl } else s.ln j := ln_set hi j
theorem Ts.stp_wd {s : Ts} {i cp cl : Nat} {cls : List (Nat × List Int)} (hi : i < s.ls.length) (j : Nat) : (s.stp i cp cl cls).wd j = s.wd j := by
  show ((s.stp i cp cl cls).ln j).wd = _
  rw [Ts.stp_ln hi]
  by_cases e : j = i
  · subst e; rw [if_pos rfl]; rfl
  · rw [if_neg e]; rfl
theorem Ts.stp_ed {s : Ts} {i cp cl : Nat} {cls : List (Nat × List Int)} (hi : i < s.ls.length) (j : Nat) : ((s.stp i cp cl cls).ln j).ed = (s.ln j).ed := by
  rw [Ts.stp_ln hi]
  by_cases e : j = i
  · subst e; rw [if_pos rfl]
  · rw [if_neg e]
/-- A line's class and how far it is compared are written. -/
theorem To.setLn (h : To B w p s) {i : Nat} (hi : i < s.ls.length) (cp cl : Nat) :
    To B ((w.setCell ⟨p.gl, i * 4 + 3, none⟩ (.int .i64 (cl : Int))).setCell ⟨p.gl, i * 4 + 2, none⟩ (.int .i64 (cp : Int))) p (s.stp i cp cl s.cls) := by
  refine h.toLs _ (by simp) ?_ fun j b hj e => ?_
  · have := OwnG.set2 lnE_len ln0 h.ls (s := i) (i := 3) (j := 2) hi (by decide) (by decide) (.int .i64 (cl : Int)) (.int .i64 (cp : Int)) { s.ln i with cp := cp, cl := cl } rfl
    rw [List.length_set]; exact this
  · have hne : b ≠ p.gl := h.ne e (show p.bk 3 = some p.gl from rfl) hj
    rw [Below.heap_setCell _ _ _ _ hne, Below.heap_setCell _ _ _ _ hne]
/-- The number in a cell. -/
def numAt (w : World) (g o : Nat) : Nat := match w.cell? ⟨g, o, none⟩ with | some (.int _ x) => x.toNat | _ => 0
/-- On the way: what is seen is the same, lines' classes stand for their cells. -/
structure CaI (s s1 : Ts) : Prop where
  sv : Sv s s1
  kn : s1.kn = s.kn
  cl : ∃ G, ClO s1.cls G ∧ LnO s1 G
  cp : ∀ i, i < s.ls.length → (s1.ln i).cp ≤ s.cols.length
  sm : s1.cls.length ≤ (s1.ls.map Ln.cp).sum
theorem CaI.many {s s1 : Ts} (h : CaI s s1) (V : Vi s) : s1.cls.length ≤ 100000000 := by
  have h1 : (s1.ls.map Ln.cp).sum ≤ s1.ls.length * 1024 := sum_le _ fun x hx => by
    obtain ⟨i, hi, rfl⟩ := List.getElem_of_mem hx
    have := h.cp i (by rw [← h.sv.len]; exact hi)
    rw [show s1.ln i = s1.ls[i] by unfold Ts.ln; rw [List.getD_eq_getElem?_getD, List.getElem?_eq_getElem hi]; rfl] at this
    have := V.cl
    omega
  have h2 := V.len2
  have h3 := h.sm
  rw [h.sv.len] at h1
  have h4 : s.ls.length * 1024 ≤ 65537 * 1024 := Nat.mul_le_mul_right _ h2
  omega
/-- One more column of one line. -/
theorem CaI.step {s s1 : Ts} (h : CaI s s1) {i n : Nat} (hi : i < s.ls.length) (hn : (s1.ln i).cp = n) (hc : n < s.cols.length) {cls : List (Nat × List Int)}
    (hx : ((s1.ln i).cl, (s.cel (s.wd i) (s.co n)).getD []) ∈ cls) (hk : cls = s1.cls ∨ ((s1.ln i).cl, (s.cel (s.wd i) (s.co n)).getD []) ∉ s1.cls ∧ cls = s1.cls ++ [((s1.ln i).cl, (s.cel (s.wd i) (s.co n)).getD [])]) :
    CaI s (s1.stp i (n + 1) (cls.idxOf ((s1.ln i).cl, (s.cel (s.wd i) (s.co n)).getD []) + 1) cls) := by
  have hi1 : i < s1.ls.length := by rw [h.sv.len]; exact hi
  obtain ⟨G, g1, g2⟩ := h.cl
  obtain ⟨c1, c2⟩ := g2 i hi1
  generalize hd : cls.idxOf ((s1.ln i).cl, (s.cel (s.wd i) (s.co n)).getD []) + 1 = d
  have hsv : Sv s (s1.stp i (n + 1) d cls) :=
    ⟨h.sv.kind, h.sv.K, h.sv.o, h.sv.f, h.sv.nf, h.sv.rows, h.sv.ord, h.sv.cols, by show (s1.ls.set i _).length = _; rw [List.length_set]; exact h.sv.len, fun j => by rw [Ts.stp_wd hi1]; exact h.sv.wd j, fun j => by rw [Ts.stp_ed hi1]; exact h.sv.ed j⟩
  have hcst : ∀ j m, s1.cst j m = s.cst j m := fun j m => h.sv.cst j m
  have key : ∃ G', ClO cls G' ∧ (∀ d, d ≤ s1.cls.length → G' d = G d) ∧ s1.cls.length ≤ cls.length := by
    rcases hk with hk | ⟨hno, hk⟩
    · subst hk; exact ⟨G, g1, fun _ _ => rfl, Nat.le_refl _⟩
    · subst hk; exact ⟨_, g1.add hno c1, fun d hd => by rw [if_neg (by omega)], by simp⟩
  obtain ⟨G', k1, k2, k3⟩ := key
  obtain ⟨a1, a2⟩ := k1.at hx
  rw [hd] at a1 a2
  refine ⟨hsv, h.kn, ⟨G', k1, fun j hj => ?_⟩, fun j hj => ?_, ?_⟩
  · rw [hsv.len] at hj
    rw [Ts.stp_ln hi1]
    by_cases e : j = i
    · subst e
      rw [if_pos rfl]
      refine ⟨a1, ?_⟩
      show G' d = _
      rw [a2, k2 _ c1, c2, hn, hsv.cst, hcst, Ts.cst_succ]
    · rw [if_neg e]
      obtain ⟨b1, b2⟩ := g2 j (by rw [h.sv.len]; exact hj)
      exact ⟨Nat.le_trans b1 k3, by rw [k2 _ b1, b2, hsv.cst, hcst]⟩
  · rw [Ts.stp_ln hi1]
    by_cases e : j = i
    · subst e; rw [if_pos rfl]; exact hc
    · rw [if_neg e]; exact h.cp j hj
  · have q := sum_set s1.ls i { s1.ln i with cp := n + 1, cl := d } hi1
    have e1 : (s1.ls.getD i ln0).cp = n := hn
    rw [e1] at q
    have e2 : ({ s1.ln i with cp := n + 1, cl := d } : Ln).cp = n + 1 := rfl
    rw [e2] at q
    have hsm := h.sm
    have e3 : ((s1.stp i (n + 1) d cls).ls.map Ln.cp).sum = ((s1.ls.set i { s1.ln i with cp := n + 1, cl := d }).map Ln.cp).sum := rfl
    have e4 : (s1.stp i (n + 1) d cls).cls = cls := rfl
    rw [e3, e4]
    rcases hk with hk | ⟨-, hk⟩
    · rw [hk]; omega
    · rw [hk, List.length_append, List.length_singleton]; omega

/-- What compareAll leaves. -/
def CaPost (B : Nat) (p : Tl) (s : Ts) (w : World) (e : Ending) (w' : World) : Prop :=
  ∃ s' r, e = .returned (.bool (r : Option (List Int)).isNone) ∧ To B w' p s' ∧ Sv s s' ∧ Hd s' ∧ Bx p.has w w' ∧ MinC s s.cols.length r ∧ (r = none → Ful s')

set_option maxRecDepth 100000 in
set_option maxHeartbeats 4000000 in
theorem compareAll_any (h : To B w p s) (V : Vi s) (H : Hd s) : Calls Try.prog 24 #[.pointer (some ⟨p.b, 0, none⟩)] w (CaPost B p s w) := by
  have hfm := firstMissing_any h V H.kn H.cp
  have HV := hide V
  have HH := hide H
  clear h V H
  go_enter Try.func24, Try.ntmps24
  go_wp2_with fail
  refine hfm.mono ?_
  rintro e w1 ⟨kn, r, rfl, k1, k2, k3, k4⟩
  have HM := hide k4
  have HK := hide k1
  have HT := hide k2
  have HX := hide k3
  have hl2 := (unhide HV).len2
  have hl0 : 0 < s.ls.length := by rw [(unhide HV).len]; omega
  have hcl := (unhide HV).cl
  clear hfm k1 k2 k3 k4
  cases r with
  | some v =>
    have HP : Hid (CaPost B p s w (.returned (.bool false)) w1) := hide
      ⟨{ s with kn := kn }, some v, rfl, unhide HT, ⟨rfl, rfl, rfl, rfl, rfl, rfl, rfl, rfl, rfl, fun _ => rfl, fun _ => rfl⟩, ⟨unhide HK, (unhide HH).cp, (unhide HH).cl, (unhide HH).sm⟩, unhide HX, unhide HM, (fun e => by cases e)⟩
    simp only [Option.isSome_some]
    go_wp2
    go_ret
    exact unhide HP
  | none =>
    have HAK := hide ((unhide HM).1 rfl)
    have HI : Hid (CaI s { s with kn := s.kn }) := hide ⟨Sv.refl s, rfl, (unhide HH).cl, fun i hi => ((unhide HH).cp i hi).1, (unhide HH).sm⟩
    have c4 := (unhide HT).c4
    have HS0 : Hid (Sv s { s with kn := kn }) := hide ⟨rfl, rfl, rfl, rfl, rfl, rfl, rfl, rfl, rfl, fun _ => rfl, fun _ => rfl⟩
    have HI : Hid (CaI { s with kn := kn } { s with kn := kn }) := hide ⟨Sv.refl _, rfl, (unhide HH).cl, fun i hi => ((unhide HH).cp i hi).1, (unhide HH).sm⟩
    have HV1 := hide ((unhide HV).toKn (unhide HK))
    have HAK1 : Hid (∀ i c, i < ({ s with kn := kn } : Ts).ls.length → c < ({ s with kn := kn } : Ts).cols.length → ({ s with kn := kn } : Ts).isK i c) := HAK
    have HKK : Hid (KnO { s with kn := kn } kn) := HK
    have hl2' : ({ s with kn := kn } : Ts).ls.length ≤ 65537 := hl2
    have hcl' : ({ s with kn := kn } : Ts).cols.length ≤ 1024 := hcl
    have c4' : w1.cell? ⟨p.b, 4, none⟩ = some (.slice (some ⟨p.gl, 0, none⟩) ({ s with kn := kn } : Ts).ls.length p.cl) := c4
    have HEND : Hid (∀ s' w', To B w' p s' → CaI { s with kn := kn } s' → Bx p.has w w' → Ful s' → CaPost B p s w (.returned (.bool true)) w') := hide fun s' w' q1 q2 q3 q4 =>
      ⟨s', none, rfl, q1, (unhide HS0).trans q2.sv, ⟨by rw [q2.kn]; exact (unhide HKK).to q2.sv, fun i hi => ⟨by rw [q4 i hi]; exact Nat.le_refl _, fun c hc => by
        rw [q2.sv.isK]
        rw [q4 i hi, q2.sv.cols] at hc
        exact unhide HAK1 i c (by rw [q2.sv.len] at hi; exact hi) hc⟩, q2.cl, q2.sm⟩, q3, unhide HM, fun _ => q4⟩
    clear c4 hl2 hcl HV HH HK HM HS0 HAK
    simp only [Option.isSome_none, Option.getD_none]
    revert HT HI HV1 HAK1 hl2' hcl' c4' HEND
    generalize ({ s with kn := kn } : Ts) = t
    intro HT HI HV1 HAK1 hl2' hcl' c4' HEND
    have hl0' : (t.ls.length : Int) ≤ 65537 := by omega
    go_wp2
    go_loopw [20] (fun iv wr => ∃ (I : Nat) (t1 : Ts), iv = .int .i64 (I : Int) ∧ I ≤ t.ls.length ∧ Hid (To B wr p t1) ∧ Hid (CaI t t1) ∧ Hid (∀ j, j < I → (t1.ln j).cp = t.cols.length) ∧ Hid (Bx p.has w wr)) (fun iv _ => t.ls.length - (intOf iv).toNat)
    case atStart => exact ⟨0, t, rfl, Nat.zero_le _, HT, HI, hide (fun j hj => by omega), HX⟩
    case round =>
      obtain ⟨I, t1, rfl, hI, HT1, HI1, HF1, HX1⟩ := hrel
      by_cases hlt : I < t.ls.length
      · have hlt' : (I : Int) < (t.ls.length : Int) := by omega
        have d4 := (unhide HT1).c4
        rw [(unhide HI1).sv.len] at d4
        have hlc := (unhide HT1).lnc
        rw [(unhide HI1).sv.len] at hlc
        go_wp2
        go_loopw [8] (fun _ wr => ∃ t2 : Ts, Hid (To B wr p t2) ∧ Hid (CaI t t2) ∧ Hid (∀ j, j < I → (t2.ln j).cp = t.cols.length) ∧ Hid (Bx p.has w wr)) (fun _ wr => t.cols.length - numAt wr p.gl (I * 4 + 2))
        case atStart => exact ⟨t1, HT1, HI1, HF1, HX1⟩
        case round =>
          obtain ⟨t2, HT2, HI2, HF2, HX2⟩ := hrel
          clear d4 HT1 HI1 HF1 HX1
          have hI2 : I < t2.ls.length := by rw [(unhide HI2).sv.len]; exact hlt
          have e7 := (unhide HT2).c7
          rw [(unhide HI2).sv.cols] at e7
          obtain ⟨-, -, m2, m3, -⟩ := (unhide HT2).lc hI2
          have hcp := (unhide HI2).cp I hlt
          have HNN : Hid (numAt wr p.gl (I * 4 + 2) = (t2.ln I).cp) := hide (by unfold numAt; rw [m2]; simp)
          by_cases hn : (t2.ln I).cp < t.cols.length
          · have hn' : ((t2.ln I).cp : Int) < (t.cols.length : Int) := by omega
            have hce := fun q => cell_any (w := wr.drewN q) (i := I) (c := (t2.ln I).cp) ((unhide HT2).keep fun _ _ _ => rfl) ((unhide HV1).to (unhide HI2).sv (by rw [(unhide HI2).kn, (unhide HI2).sv.cols]; exact (unhide HV1).kl)) hI2 (by rw [(unhide HI2).sv.cols]; exact hn)
            have exx : t2.cel (t2.wd I) (t2.co (t2.ln I).cp) = t.cel (t.wd I) (t.co (t2.ln I).cp) := by rw [(unhide HI2).sv.cel, (unhide HI2).sv.wd, (unhide HI2).sv.co]
            simp only [exx] at hce
            have HT3 := hide (fun (q : Nat) (w3 : World) (hb : Below (wr.drewN q).heap.size (wr.drewN q) w3) => ((unhide HT2).keep (w' := wr.drewN q) fun _ _ _ => rfl).below hb)
            have hcbl := (unhide HI2).many ((unhide HV1))
            obtain ⟨G, g1, g2⟩ := (unhide HI2).cl
            have hclb := (g2 I hI2).1
            clear g1 g2 G
            have HSTEP := hide (fun (cls : List (Nat × List Int)) (hx : ((t2.ln I).cl, (t.cel (t.wd I) (t.co (t2.ln I).cp)).getD []) ∈ cls) hk => (unhide HI2).step hlt rfl hn hx hk)
            have hxok : okP ((t2.ln I).cl, (t.cel (t.wd I) (t.co (t2.ln I).cp)).getD []) := by
              refine ⟨by show (t2.ln I).cl ≤ _; omega, ?_⟩
              cases hq : t.cel (t.wd I) (t.co (t2.ln I).cp) with
              | none => exact ⟨Sb.nil, by simp⟩
              | some v => exact Vi.celS (unhide HV1) hq
            have HLN := hide (rfl : (t2.ln I).cp = (t2.ln I).cp)
            have HSTP := hide (fun (cls : List (Nat × List Int)) (w4 : World) (h4 : To B w4 p { t2 with cls := cls }) => To.setLn (s := { t2 with cls := cls }) h4 hI2 ((t2.ln I).cp + 1) (cls.idxOf ((t2.ln I).cl, (t.cel (t.wd I) (t.co (t2.ln I).cp)).getD []) + 1))
            have HFN := hide (fun (cp cl : Nat) (cls : List (Nat × List Int)) => (show ∀ j, j < I → ((t2.stp I cp cl cls).ln j).cp = t.cols.length from fun j hj => by
              rw [Ts.stp_ln hI2, if_neg (by omega)]; exact unhide HF2 j hj))
            clear exx HF2
            have hnN : (t2.ln I).cp ≤ 1024 := by omega
            unfold ceV at hce
            generalize (t.cel (t.wd I) (t.co (t2.ln I).cp)).isSome = bb at *
            generalize (t.cel (t.wd I) (t.co (t2.ln I).cp)).getD [] = x at *
            generalize hnE : (t2.ln I).cp = n at *
            generalize hdE : (t2.ln I).cl = d at *
            have HNE := hide hnE
            have HDE := hide hdE
            clear hnE hdE
            go_wp2
            go_quiet (fail)
            go_wp2_with fail
            refine (hce _).mono ?_
            rintro e w2 ⟨rfl, hb2⟩
            have hT4 := unhide HT3 _ _ hb2
            have hb5 := ballo w2 (.cells #[.string (sp x)] 73)
            have hT5 := hT4.below hb5
            obtain ⟨-, -, n2, n3, nf⟩ := hT5.lc hI2
            rw [unhide HNE] at n2
            rw [unhide HDE] at n3
            have HX5 : Hid (Bx p.has w (w2.alloc (.cells #[.string (sp x)] 73))) := hide (Bx.trans ((unhide HX2).draws _) (Bx.of (X := p.has) (bstep hb2 hb5)) (fun _ _ h => h))
            have hcbp := classBehind_any (w := (w2.alloc (.cells #[.string (sp x)] 73)).drew) (hT5.keep fun _ _ _ => rfl) hxok hcbl
            clear hT4 hb2 hb5 hce HT3 m2 m3 e7 HX2 HT2
            unfold ekP at hcbp
            have nf3 := nf (I * 4 + 3)
            have HND : Hid (∀ w3 D, numAt ((w3 : World).setCell ⟨p.gl, I * 4 + 2, none⟩ (.int .i64 ((n : Int) + 1))) p.gl (I * 4 + 2) = D → (w3.cell? ⟨p.gl, I * 4 + 2, none⟩).isSome = true → D = n + 1) := hide fun w3 D hD hs => by
              obtain ⟨u, hu⟩ := Option.isSome_iff_exists.1 hs
              subst hD
              unfold numAt
              rw [World.cell?_setCell_same _ _ _ hu]
              show ((n : Int) + 1).toNat = _
              omega
            go_wp2
            go_region_with (go_at_call 48; (with_reducible refine hcbp.mono ?_); rintro e w3 ⟨cls, rfl, hT6, hX6, hx6, hk6⟩; obtain ⟨-, -, o2, o3, of⟩ := hT6.lc hI2; have HS4 := hide (unhide HSTP cls w3 hT6); have HC4 := hide (unhide HSTEP cls hx6 hk6); have HF4 := hide (unhide HFN (n + 1) (cls.idxOf (d, x) + 1) cls); have HX4 := hide (Bx.trans (unhide HX5).drew hX6 (fun _ _ h => h)); have o2' : w3.cell? ⟨p.gl, I * 4 + 2, none⟩ = some (.int .i64 (n : Int)) := (by rw [← unhide HNE]; exact o2); have o3' : w3.cell? ⟨p.gl, I * 4 + 3, none⟩ = some (.int .i64 (d : Int)) := (by rw [← unhide HDE]; exact o3); have of2 := of (I * 4 + 2); have of3 := of (I * 4 + 3); clear hT6 hX6 hx6 hk6 hcbp o2 o3 of n2 n3 nf nf3; generalize cls.idxOf (d, x) + 1 = D at *)
            all_goals (
              have o2'' : (w3.setCell ⟨p.gl, I * 4 + 3, none⟩ (.int .i64 (D : Int))).cell? ⟨p.gl, I * 4 + 2, none⟩ = some (.int .i64 (n : Int)) := (World.cell?_setCell_other (w := w3) (a := ⟨p.gl, I * 4 + 3, none⟩) (b := ⟨p.gl, I * 4 + 2, none⟩) (v := .int .i64 (D : Int)) (h := fun e => by injection e with _ e2 _; omega)).trans o2'
              have HMS := hide (unhide HND (w3.setCell ⟨p.gl, I * 4 + 3, none⟩ (.int .i64 (D : Int))) _ rfl (by rw [o2'']; rfl))
              go_wp2
              go_roundw
              case rel => exact ⟨t2.stp I (n + 1) D cls, hide (unhide HS4), HC4, HF4, hide (((unhide HX4).setCell (p := ⟨p.gl, I * 4 + 3, none⟩) ⟨3, rfl⟩ _).setCell (p := ⟨p.gl, I * 4 + 2, none⟩) ⟨3, rfl⟩ _)⟩
              case measure => rw [unhide HMS, unhide HNN]; omega)
          · have hn' : ¬ ((t2.ln I).cp : Int) < (t.cols.length : Int) := by omega
            have HFF : Hid (∀ j, j < I + 1 → (t2.ln j).cp = t.cols.length) := hide fun j hj => by
              by_cases e : j = I
              · subst e; omega
              · exact unhide HF2 j (by omega)
            clear HF2 HNN m3
            generalize (t2.ln I).cp = n at *
            go_wp2
            go_quiet (fail)
            go_wp2
            go_roundw
            case rel => exact ⟨I + 1, t2, by go_num, hlt, hide ((unhide HT2).keep fun _ _ _ => rfl), HI2, HFF, hide ((unhide HX2).draws _)⟩
            case measure => simp [intOf]; omega
      · obtain rfl : I = t.ls.length := by omega
        have HP := hide (unhide HEND t1 wr (unhide HT1) (unhide HI1) (unhide HX1) (fun i hi => by rw [(unhide HI1).sv.cols]; exact unhide HF1 i (by rw [(unhide HI1).sv.len] at hi; exact hi)))
        go_wp2
        go_ret
        exact unhide HP
end

end Go.Proofs.Ytepmdnggiajkbaa
