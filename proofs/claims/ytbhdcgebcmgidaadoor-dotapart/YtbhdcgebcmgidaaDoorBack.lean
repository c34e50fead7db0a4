/-
  Texts there and back, in plain words: a rune's bytes are those that it was read from, what is shown by names is read as it was, what is read is shown again.
-/
import Derived.Test.YtbhdcgebcmgidaaDoorGRead
import Derived.Test.YtbhdcgebcmgidaaDoorRShow
namespace Go.Proofs.YtbhdcgebcmgidaaDoor
open Go.RowKit

theorem valid_of {s : ByteArray} {i : Nat} (h : brk s i = false) : Lib.validRune (rn s i) = true := by
  unfold Lib.validRune
  rw [decide_eq_true_eq]
  unfold rn
  rcases dec_all s i with c | c | c | c | c
  · rw [dec_one c]; simp only; omega
  · rw [dec_two c]; unfold Two at c; simp only; omega
  · rw [dec_three c]; unfold Three at c; unfold v3 at *; simp only; omega
  · rw [dec_four c]; unfold Four at c; simp only; omega
  · rw [brk_of c] at h; cases h

theorem cons_bytes {s : ByteArray} {i : Nat} {l : List UInt8} {x : Int} {m : List Int} (h : i < s.size) (hx : x = bt s i) (ht : m.map (fun x => x.toNat.toUInt8) ++ l = s.data.toList.drop (i + 1)) :
    (x :: m).map (fun x => x.toNat.toUInt8) ++ l = s.data.toList.drop i := by
  have h1 : i < s.data.toList.length := by rw [← Lib.size_eq]; exact h
  rw [List.drop_eq_getElem_cons h1, ← ht, List.map_cons, List.cons_append, hx]
  congr 1
  rw [← bt_list s i h1]
  simp

/-- A rune's bytes are those that it was read from. -/
theorem enc_dec {s : ByteArray} {i : Nat} (hi : i < s.size) (h : brk s i = false) : Lib.encodeRune (rn s i) ++ s.data.toList.drop (i + wd s i) = s.data.toList.drop i := by
  have q0 := bt_lt s i
  unfold Lib.encodeRune rn wd
  rcases dec_all s i with c | c | c | c | c
  · rw [dec_one c]
    simp only
    rw [Lib.encodeRuneZ_one (by omega) (by omega)]
    exact cons_bytes hi rfl rfl
  · rw [dec_two c]
    obtain ⟨h1, h2, h3, h4, h5, h6⟩ := c
    simp only
    rw [Lib.encodeRuneZ_two (by omega) (by omega)]
    exact cons_bytes hi (by omega) (cons_bytes h3 (by omega) rfl)
  · rw [dec_three c]
    obtain ⟨h1, h2, h3, h4, h5, h6, h7, h8, h9⟩ := c
    unfold v3 at *
    simp only
    rw [Lib.encodeRuneZ_three (by omega)]
    exact cons_bytes hi (by omega) (cons_bytes (by omega) (by omega) (cons_bytes h3 (by show _ = ((bt s (i + 2) : Nat) : Int); omega) rfl))
  · rw [dec_four c]
    obtain ⟨h1, h2, h3, h4, h5, h6, h7, h8, h9, h10, h11⟩ := c
    unfold v4 at *
    simp only
    rw [Lib.encodeRuneZ_four (by omega) (by omega)]
    exact cons_bytes hi (by omega) (cons_bytes (by omega) (by omega) (cons_bytes (by omega) (by show _ = ((bt s (i + 2) : Nat) : Int); omega) (cons_bytes h3 (by show _ = ((bt s (i + 3) : Nat) : Int); omega) rfl)))
  · rw [brk_of c] at h; cases h

/-- Names that Parse can tell: each first stands in its own place, each is a rune. -/
def GoodN (l : List Int) : Prop := ∀ j, j < l.length → plc (l.getD j 0) l 0 = j ∧ Lib.validRune (l.getD j 0) = true

theorem GoodN.nil : GoodN [] := fun j hj => by simp at hj
theorem GoodN.snoc {l : List Int} {x : Int} (h : GoodN l) (hx : ¬ 0 ≤ plc x l 0) (hv : Lib.validRune x = true) : GoodN (l ++ [x]) := by
  intro j hj
  rw [plc_snoc]
  by_cases e : j < l.length
  · have e1 : (l ++ [x]).getD j 0 = l.getD j 0 := by simp only [List.getD, List.getElem?_append_left e]
    rw [e1]
    obtain ⟨h1, h2⟩ := h j e
    rw [if_pos (by omega)]
    exact ⟨h1, h2⟩
  · obtain rfl : j = l.length := by simp at hj; omega
    have e1 : (l ++ [x]).getD l.length 0 = x := by simp
    rw [e1, if_neg hx, if_pos rfl]
    exact ⟨by omega, hv⟩

theorem flt_zero {b : Bool} {l : List Int} {r : Int} (h : fltV b l r = 0) : b = false ∧ noName r = false ∧ ¬ 0 ≤ plc r l 0 ∧ l.length ≠ 64 := by
  have h4 := fltV_len h
  unfold fltV at h
  split at h
  · omega
  · rename_i c
    split at h
    · omega
    · rename_i d
      refine ⟨?_, ?_, d, h4⟩
      · cases b <;> simp_all
      · cases hn : noName r <;> simp_all

/-- The names' bytes. -/
def encs (l : List Int) : List UInt8 := l.flatMap Lib.encodeRune
theorem encs_snoc (l : List Int) (x : Int) : encs (l ++ [x]) = encs l ++ Lib.encodeRune x := by simp [encs]

theorem prs_good (s : ByteArray) : ∀ (f pos : Nat) (acc : List Int), GoodN acc → acc.length ≤ 64 → pos ≤ s.size → s.size ≤ pos + f → encs acc ++ s.data.toList.drop pos = s.data.toList →
    ((prs s f pos acc).2.1 = 0 ∧ GoodN (prs s f pos acc).1 ∧ (prs s f pos acc).1.length ≤ 64 ∧ encs (prs s f pos acc).1 = s.data.toList) ∨ ((prs s f pos acc).2.1 ≠ 0 ∧ (prs s f pos acc).1 = [])
  | 0, pos, acc, hg, hl, hp, hf, he => by
    left
    refine ⟨rfl, hg, hl, ?_⟩
    rw [List.drop_eq_nil_of_le (by rw [← Lib.size_eq]; omega), List.append_nil] at he
    exact he
  | f + 1, pos, acc, hg, hl, hp, hf, he => by
    by_cases c : pos < s.size
    · by_cases z : fltV (brk s pos) acc (rn s pos) = 0
      · rw [prs_go c z]
        obtain ⟨z1, z2, z3, z4⟩ := flt_zero z
        have hw := wd_pos s pos
        refine prs_good s f (pos + wd s pos) (acc ++ [rn s pos]) (hg.snoc z3 (valid_of z1)) (by simp; omega) (wd_in s pos c) (by omega) ?_
        rw [encs_snoc, List.append_assoc, enc_dec c z1]
        exact he
      · rw [prs_stop c z]
        exact .inr ⟨z, rfl⟩
    · rw [prs_end c]
      left
      refine ⟨rfl, hg, hl, ?_⟩
      rw [List.drop_eq_nil_of_le (by rw [← Lib.size_eq]; omega), List.append_nil] at he
      exact he

theorem prsV_good (s : ByteArray) : ((prsV s).2.1 = 0 ∧ GoodN (prsV s).1 ∧ (prsV s).1.length ≤ 64 ∧ encs (prsV s).1 = s.data.toList) ∨ ((prsV s).2.1 ≠ 0 ∧ (prsV s).1 = []) := by
  unfold prsV
  split
  · right; exact ⟨by decide, rfl⟩
  · exact prs_good s s.size 0 [] GoodN.nil (by simp) (by omega) (by omega) (by simp [encs])

/-- What is read is shown again. -/
theorem rds_shown (names : List Int) (s : ByteArray) : ∀ (f pos : Nat) (acc : List Int), pos ≤ s.size → s.size ≤ pos + f → (rds names s f pos acc).2.1 = 0 →
    ∃ l, (rds names s f pos acc).1 = acc ++ l ∧ ∀ bs, shw names l bs = (bs ++ s.data.toList.drop pos, 0)
  | 0, pos, acc, hp, hf, _ => by
    refine ⟨[], by simp [rds], fun bs => ?_⟩
    rw [List.drop_eq_nil_of_le (by rw [← Lib.size_eq]; omega), List.append_nil]; rfl
  | f + 1, pos, acc, hp, hf, h0 => by
    by_cases c : pos < s.size
    · by_cases hl : acc.length = 4096
      · rw [rds_long c hl] at h0; simp at h0
      · cases hb : brk s pos
        · by_cases hx : 0 ≤ plc (rn s pos) names 0
          · rw [rds_go c hl hb hx] at h0 ⊢
            have hw := wd_pos s pos
            obtain ⟨l, e1, e2⟩ := rds_shown names s f (pos + wd s pos) _ (wd_in s pos c) (by omega) h0
            have hg := plc_get (rn s pos) names 0 hx
            have hr := plc_range (rn s pos) names 0
            rw [Int.natCast_zero, Int.sub_zero] at hg
            refine ⟨plc (rn s pos) names 0 :: l, by rw [e1, List.append_assoc]; rfl, fun bs => ?_⟩
            rw [shw, if_neg (by omega), hg, if_pos (valid_of hb), e2, List.append_assoc, enc_dec c hb]
          · rw [rds_rune c hl (.inr hx)] at h0; simp at h0
        · rw [rds_rune c hl (.inl hb)] at h0; simp at h0
    · rw [rds_end c]
      refine ⟨[], by simp, fun bs => ?_⟩
      rw [List.drop_eq_nil_of_le (by rw [← Lib.size_eq]; omega), List.append_nil]; rfl

theorem read_shown {names : List Int} {s : ByteArray} (h : (rdsV names s).2.1 = 0) : shwV names (rdsV names s).1 = (s.data.toList, 0) := by
  obtain ⟨l, e1, e2⟩ := rds_shown names s s.size 0 [] (by omega) (by omega) h
  unfold rdsV shwV
  rw [e1, List.nil_append, e2]; simp

/-- By such names only a symbol can be wrong. -/
theorem shw_err {names : List Int} (hg : GoodN names) : ∀ (l : List Int) (bs : List UInt8), (shw names l bs).2 = 0 ∨ shw names l bs = ([], 10)
  | [], _ => .inl rfl
  | x :: l, bs => by
    by_cases hx : x < 0 ∨ (names.length : Int) ≤ x
    · exact .inr (shw_sym hx)
    · obtain ⟨m, rfl⟩ : ∃ m : Nat, x = m := ⟨x.toNat, by omega⟩
      have hm : m < names.length := by omega
      rw [shw_go hm (hg m hm).2]
      exact shw_err hg l _

/-- What has been shown stands ahead. -/
theorem shw_ahead {names : List Int} : ∀ (l : List Int) (bs : List UInt8), (shw names l bs).2 = 0 → ∃ c, (shw names l bs).1 = bs ++ c
  | [], bs, _ => ⟨[], by simp [shw]⟩
  | x :: l, bs, h => by
    by_cases hx : x < 0 ∨ (names.length : Int) ≤ x
    · rw [shw_sym hx] at h; simp at h
    · obtain ⟨m, rfl⟩ : ∃ m : Nat, x = m := ⟨x.toNat, by omega⟩
      have hm : m < names.length := by omega
      cases hv : Lib.validRune (names.getD m 0)
      · rw [shw_arg hm hv] at h; simp at h
      · rw [shw_go hm hv] at h ⊢
        obtain ⟨c, hc⟩ := shw_ahead l _ h
        exact ⟨_, by rw [hc, List.append_assoc]⟩

theorem bt_at {s : ByteArray} {a c : List UInt8} {l : List Int} (h : s.data.toList = a ++ l.map (fun x => x.toNat.toUInt8) ++ c) (hb : ∀ x ∈ l, 0 ≤ x ∧ x < 256) {j : Nat} (hj : j < l.length) : (bt s (a.length + j) : Int) = l.getD j 0 ∧ a.length + j < s.size := by
  have hs : s.size = s.data.toList.length := Lib.size_eq s
  have hlen := congrArg List.length h
  simp only [List.length_append, List.length_map] at hlen
  have hk : a.length + j < s.data.toList.length := by omega
  refine ⟨?_, by omega⟩
  rw [← bt_list s _ hk]
  have e : s.data.toList[a.length + j]? = some ((l[j]'hj).toNat.toUInt8) := by
    rw [h, List.append_assoc, List.getElem?_append_right (by omega), Nat.add_sub_cancel_left, List.getElem?_append_left (by simpa using hj), List.getElem?_map, List.getElem?_eq_getElem hj]
    rfl
  rw [List.getElem?_eq_getElem hk] at e
  rw [Option.some.inj e]
  have := hb _ (List.getElem_mem hj)
  simp only [List.getD, List.getElem?_eq_getElem hj, Option.getD_some]
  simp
  omega

/-- What stands behind a is the rune whose bytes stand there. -/
theorem dec_enc {s : ByteArray} {a c : List UInt8} {r : Int} (hv : Lib.validRune r = true) (h : s.data.toList = a ++ Lib.encodeRune r ++ c) : rn s a.length = r ∧ wd s a.length = (Lib.encodeRune r).length ∧ a.length < s.size ∧ brk s a.length = false := by
  have hB := fun j (hj : j < (Lib.encodeRuneZ r).length) => bt_at h (Lib.encodeRuneZ_byte r) hj
  have hlen : (Lib.encodeRune r).length = (Lib.encodeRuneZ r).length := by simp [Lib.encodeRune]
  rw [hlen]
  unfold Lib.validRune at hv
  rw [decide_eq_true_eq] at hv
  unfold rn wd
  by_cases c1 : r ≤ 127
  · rw [Lib.encodeRuneZ_one (by omega) c1] at hB ⊢
    have b0 := hB 0 (by simp)
    simp at b0
    have hc : bt s a.length < 128 := by omega
    rw [brk_not (.inl hc), dec_one hc]
    exact ⟨by simp only; omega, rfl, by omega, rfl⟩
  by_cases c2 : r ≤ 2047
  · rw [Lib.encodeRuneZ_two (by omega) c2] at hB ⊢
    have b0 := hB 0 (by simp)
    have b1 := hB 1 (by simp)
    simp at b0 b1
    have hc : Two s a.length := ⟨by omega, by omega, by omega, by omega, by omega, by omega⟩
    rw [brk_not (.inr (.inl hc)), dec_two hc]
    exact ⟨by simp only; omega, rfl, by omega, rfl⟩
  by_cases c3 : r ≤ 65535
  · rw [Lib.encodeRuneZ_three (by omega)] at hB ⊢
    have b0 := hB 0 (by simp)
    have b1 := hB 1 (by simp)
    have b2 := hB 2 (by simp)
    simp at b0 b1 b2
    have e : (v3 s a.length : Int) = r := by unfold v3; omega
    have hc : Three s a.length := ⟨by omega, by omega, by omega, by omega, by omega, by omega, by omega, by omega, by omega⟩
    rw [brk_not (.inr (.inr (.inl hc))), dec_three hc]
    exact ⟨e, rfl, by omega, rfl⟩
  · rw [Lib.encodeRuneZ_four (by omega) (by omega)] at hB ⊢
    have b0 := hB 0 (by simp)
    have b1 := hB 1 (by simp)
    have b2 := hB 2 (by simp)
    have b3 := hB 3 (by simp)
    simp at b0 b1 b2 b3
    have e : (v4 s a.length : Int) = r := by unfold v4; omega
    have hc : Four s a.length := ⟨by omega, by omega, by omega, by omega, by omega, by omega, by omega, by omega, by omega, by omega, by omega⟩
    rw [brk_not (.inr (.inr (.inr hc))), dec_four hc]
    exact ⟨e, rfl, by omega, rfl⟩

/-- What is shown by such names is read as it was. -/
theorem shw_read {names : List Int} (hg : GoodN names) (s : ByteArray) : ∀ (l : List Int) (bs : List UInt8) (f : Nat) (acc : List Int), shw names l bs = (s.data.toList, 0) → s.size ≤ bs.length + f → acc.length + l.length ≤ 4096 →
    rds names s f bs.length acc = (acc ++ l, 0, s.size)
  | [], bs, f, acc, h, hf, _ => by
    have e : bs = s.data.toList := congrArg Prod.fst h
    rw [rds_end (by rw [e, ← Lib.size_eq]; omega), List.append_nil]
  | x :: l, bs, f, acc, h, hf, hl => by
    by_cases hx : x < 0 ∨ (names.length : Int) ≤ x
    · rw [shw_sym hx] at h; exact absurd (congrArg Prod.snd h) (by simp)
    · obtain ⟨m, rfl⟩ : ∃ m : Nat, x = m := ⟨x.toNat, by omega⟩
      have hm : m < names.length := by omega
      obtain ⟨hp, hv⟩ := hg m hm
      rw [shw_go hm hv] at h
      obtain ⟨c, hc⟩ := shw_ahead l _ (congrArg Prod.snd h)
      rw [h] at hc
      obtain ⟨h1, h2, h3, h4⟩ := dec_enc hv hc
      have hpos := Lib.runeCells_le (names.getD m 0)
      rw [Lib.runeCells_length] at hpos
      obtain ⟨f', rfl⟩ : ∃ f', f = f' + 1 := ⟨f - 1, by omega⟩
      simp only [List.length_cons] at hl
      rw [rds_go h3 (by omega) h4 (by rw [h1, hp]; omega), h1, hp, h2]
      have := shw_read hg s l (bs ++ Lib.encodeRune (names.getD m 0)) f' (acc ++ [(m : Int)]) h (by rw [List.length_append]; omega) (by simp; omega)
      rw [List.length_append] at this
      rw [this, List.append_assoc]; rfl

theorem shown_read {names l : List Int} (hg : GoodN names) (hl : l.length ≤ 4096) (h : (shwV names l).2 = 0) : rdsV names ⟨(shwV names l).1.toArray⟩ = (l, 0, (shwV names l).1.length) := by
  have := shw_read hg ⟨(shwV names l).1.toArray⟩ l [] (ByteArray.mk (shwV names l).1.toArray).size [] (Prod.ext (by simp [shwV]) h) (by simp) (by simpa using hl)
  unfold rdsV
  rw [List.length_nil] at this
  rw [this]
  simp [ByteArray.size]

end Go.Proofs.YtbhdcgebcmgidaaDoor
