/-
  Slices of lists that are read, each list wherever it lies; a cache as the document's answer has it, in memory.
-/
import Derived.Test.YtemalidanjfmkaaK28
import Derived.Test.YtemalidanjfmkaaK29
import Derived.Test.YtemalidanjfmkaaK1
namespace Go.Proofs.Ytemalidanjfmkaa
open Go.RowKit

/-- A list and where it lies. -/
structure La where
  l : List Int
  a : Option Addr
  c : Nat
def laV (x : La) : Value := .slice x.a x.l.length x.c
def laL (xs : List La) : List (List Int) := xs.map La.l
theorem laL_len (xs : List La) : (laL xs).length = xs.length := by simp [laL]
theorem laL_at {xs : List La} {i : Nat} (h : i < xs.length) : (laL xs)[i]'(by rw [laL_len]; exact h) = xs[i].l := by simp [laL]
/-- It may be read and cut. -/
structure LaOk (w : World) (x : La) : Prop where
  rd : RdL .i64 w x.a x.l
  nil : x.a = none → x.l.length = 0 ∧ x.c = 0
  le : x.l.length ≤ x.c
  cap : x.c ≤ maxLen
theorem LaOk.below {w w' : World} {x : La} (h : LaOk w x) (hb : Below w.heap.size w w') : LaOk w' x := ⟨h.rd.below hb, h.nil, h.le, h.cap⟩
theorem LaOk.len {w : World} {x : La} (h : LaOk w x) : x.l.length ≤ maxLen := Nat.le_trans h.le h.cap
/-- A slice of lists reads so. -/
structure RdLs (w : World) (a : Option Addr) (xs : List La) : Prop where
  top : xs = [] ∨ ∃ b off, a = some ⟨b, off, none⟩ ∧ ∀ i (h : i < xs.length), w.cell? ⟨b, off + i, none⟩ = some (laV xs[i])
  row : ∀ x ∈ xs, LaOk w x
theorem RdLs.nil (w : World) (a : Option Addr) : RdLs w a [] := ⟨.inl rfl, fun _ h => (by cases h)⟩
theorem RdLs.below {w w' : World} {a : Option Addr} {xs : List La} (h : RdLs w a xs) (hb : Below w.heap.size w w') : RdLs w' a xs := by
  refine ⟨?_, fun x hx => (h.row x hx).below hb⟩
  rcases h.top with h0 | ⟨b, off, e, hc⟩
  · exact .inl h0
  · exact .inr ⟨b, off, e, fun i hi => (hb.cell (World.block_lt_of_cell? w _ (hc i hi))).trans (hc i hi)⟩
theorem RdLs.at {w : World} {a : Option Addr} {xs : List La} (h : RdLs w a xs) {i : Nat} (hi : i < xs.length) : ∃ b off, a = some ⟨b, off, none⟩ ∧ ∀ i (h : i < xs.length), w.cell? ⟨b, off + i, none⟩ = some (.slice xs[i].a xs[i].l.length xs[i].c) := by
  rcases h.top with rfl | ⟨b, off, e, hc⟩
  · simp at hi
  · exact ⟨b, off, e, hc⟩
/-- A cache of the document's answer, as it lies. -/
structure Cv where
  kind : Int
  k : Int
  o : Int
  most : Int
  ws : List La
  aw : Option Addr
  cw : Nat
  os : List La
  ao : Option Addr
  co : Nat
  bg : List La
  ab : Option Addr
  cb : Nat
  hits : Int
  miss : Int
def Cv.cs (p : Cv) : Cs := ⟨p.kind, p.k, p.o, p.most, laL p.ws, laL p.os, laL p.bg, p.hits, p.miss⟩
def cvV (p : Cv) : Value := .agg #[.int .i64 p.kind, .int .i64 p.k, .int .i64 p.o, .int .i64 0, .slice none 0 0, .slice none 0 0, .int .i64 p.most, .slice p.aw p.ws.length p.cw, .slice p.ao p.os.length p.co, .slice p.ab p.bg.length p.cb, .int .i64 p.hits, .int .i64 p.miss]
/-- Its lists may be read. -/
structure RdC (w : World) (p : Cv) : Prop where
  ws : RdLs w p.aw p.ws
  os : RdLs w p.ao p.os
  bg : RdLs w p.ab p.bg
  len : p.os.length = p.ws.length
  fit : p.kind = 2 → ∀ i (h : i < p.ws.length) (h' : i < p.os.length), p.os[i].l.length = p.ws[i].l.length
  lw : p.ws.length ≤ 1000000
  lb : p.bg.length ≤ 100000000
theorem RdC.below {w w' : World} {p : Cv} (h : RdC w p) (hb : Below w.heap.size w w') : RdC w' p := ⟨h.ws.below hb, h.os.below hb, h.bg.below hb, h.len, h.fit, h.lw, h.lb⟩
/-- Its twelve cells. -/
structure Cb (w : World) (b : Nat) (p : Cv) : Prop where
  p0 : w.cell? ⟨b, 0, none⟩ = some (.int .i64 p.kind)
  p1 : w.cell? ⟨b, 1, none⟩ = some (.int .i64 p.k)
  p2 : w.cell? ⟨b, 2, none⟩ = some (.int .i64 p.o)
  p3 : w.cell? ⟨b, 3, none⟩ = some (.int .i64 0)
  p4 : w.cell? ⟨b, 4, none⟩ = some (.slice none 0 0)
  p5 : w.cell? ⟨b, 5, none⟩ = some (.slice none 0 0)
  p6 : w.cell? ⟨b, 6, none⟩ = some (.int .i64 p.most)
  p7 : w.cell? ⟨b, 7, none⟩ = some (.slice p.aw p.ws.length p.cw)
  p8 : w.cell? ⟨b, 8, none⟩ = some (.slice p.ao p.os.length p.co)
  p9 : w.cell? ⟨b, 9, none⟩ = some (.slice p.ab p.bg.length p.cb)
  p10 : w.cell? ⟨b, 10, none⟩ = some (.int .i64 p.hits)
  p11 : w.cell? ⟨b, 11, none⟩ = some (.int .i64 p.miss)
theorem Cb.alloc (w : World) (p : Cv) (t : TypeId) : Cb (w.alloc (.cells #[.int .i64 p.kind, .int .i64 p.k, .int .i64 p.o, .int .i64 0, .slice none 0 0, .slice none 0 0, .int .i64 p.most, .slice p.aw p.ws.length p.cw, .slice p.ao p.os.length p.co, .slice p.ab p.bg.length p.cb, .int .i64 p.hits, .int .i64 p.miss] t)) w.heap.size p := by
  constructor <;> simp
theorem Cb.below {w w' : World} {b : Nat} {p : Cv} (h : Cb w b p) (hb : Below w.heap.size w w') : Cb w' b p := by
  have hlt := World.block_lt_of_cell? w _ h.p0
  have ec : ∀ i, w'.cell? ⟨b, i, none⟩ = w.cell? ⟨b, i, none⟩ := fun i => hb.cell hlt
  exact ⟨(ec _).trans h.p0, (ec _).trans h.p1, (ec _).trans h.p2, (ec _).trans h.p3, (ec _).trans h.p4, (ec _).trans h.p5, (ec _).trans h.p6, (ec _).trans h.p7, (ec _).trans h.p8, (ec _).trans h.p9, (ec _).trans h.p10, (ec _).trans h.p11⟩
/-- A list cut short, where it lies. -/
theorem RdL.take {q : IntKind} {w : World} {a : Option Addr} {l : List Int} (h : RdL q w a l) (n : Nat) : RdL q w a (l.take n) := by
  rcases h with h | ⟨b, off, e, hc⟩
  · exact .inl (by rw [List.length_take]; omega)
  · refine .inr ⟨b, off, e, fun i hi => ?_⟩
    rw [List.length_take] at hi
    rw [hc i (by omega)]
    congr 2
    simp [List.getD_eq_getElem?_getD, show i < n by omega]

/-! ### has, begins -/
set_option maxRecDepth 100000 in
set_option maxHeartbeats 2000000 in
theorem rhasL_any (a : Option Addr) (c : Nat) (xs : List La) (a' : Option Addr) (c' : Nat) (v : List Int) (w : World) (hr : RdLs w a xs) (hv : RdL .i64 w a' v) (hl : xs.length ≤ maxLen) :
    Calls Try.prog 44 #[.slice a xs.length c, .slice a' v.length c'] w fun e w' => e = .returned (.bool (decide (v ∈ laL xs))) ∧ Below w.heap.size w w' := by
  unfold maxLen at hl
  have HR := hide hr
  have HV := hide hv
  clear hr hv
  go_enter Try.func44, Try.ntmps44
  go_wp2
  go_loopw [5] (fun iv wr => ∃ I : Nat, iv = .int .i64 (I : Int) ∧ I ≤ xs.length ∧ Below w.heap.size w wr ∧ Hid (v ∉ (laL xs).take I)) (fun iv _ => xs.length - (intOf iv).toNat)
  case atStart => exact ⟨0, rfl, Nat.zero_le _, Below.refl _ _, hide (by simp)⟩
  case round =>
    obtain ⟨I, rfl, hI, hB, HN⟩ := hrel
    by_cases hlt : I < xs.length
    · have hlt' : (I : Int) < (xs.length : Int) := by omega
      obtain ⟨b, off, rfl, hc⟩ := (unhide HR).at hlt
      have c0 := (hB.cell (World.block_lt_of_cell? _ _ (hc I hlt))).trans (hc I hlt)
      have hx := (unhide HR).row xs[I] (List.getElem_mem hlt)
      have HT := hide (show (laL xs).take (I + 1) = (laL xs).take I ++ [xs[I].l] by rw [List.take_succ_eq_append_getElem (by rw [laL_len]; exact hlt), laL_at hlt])
      have HM := hide (show xs[I].l ∈ laL xs from List.mem_map_of_mem (List.getElem_mem hlt))
      generalize xs[I] = X at *
      have hs := same_list X.a a' X.c c' X.l v wr (hx.rd.below hB) ((unhide HV).below hB) hx.len
      clear hc hx
      by_cases he : X.l = v
      · have HE := hide (show decide (v ∈ laL xs) = true from decide_eq_true (he ▸ unhide HM))
        rw [decide_eq_true he] at hs
        clear he
        go_wp2_with fail
        refine hs.mono ?_
        rintro e w1 ⟨rfl, hb1⟩
        go_wp2
        go_ret
        exact ⟨by rw [unhide HE]; rfl, bstep hB hb1⟩
      · have HNN := hide (show v ∉ (laL xs).take (I + 1) by
          rw [unhide HT]
          intro h
          rcases List.mem_append.1 h with h | h
          · exact unhide HN h
          · rw [List.mem_singleton] at h; exact he h.symm)
        rw [decide_eq_false he] at hs
        clear he
        go_wp2_with fail
        refine hs.mono ?_
        rintro e w1 ⟨rfl, hb1⟩
        go_wp2
        go_roundw
        case rel => exact ⟨I + 1, by go_num, by omega, bstep hB hb1, HNN⟩
        case measure => simp [intOf]; omega
    · obtain rfl : I = xs.length := by omega
      have HE := hide (show decide (v ∈ laL xs) = false from decide_eq_false (by
        have := unhide HN
        rwa [List.take_of_length_le (by rw [laL_len]; exact Nat.le_refl _)] at this))
      go_wp2
      go_ret
      exact ⟨by rw [unhide HE]; rfl, hB⟩

set_option maxRecDepth 100000 in
set_option maxHeartbeats 2000000 in
theorem rbegins_any (x : La) (a : Option Addr) (c : Nat) (v : List Int) (w : World) (hx : LaOk w x) (hv : RdL .i64 w a v) (hl : v.length ≤ maxLen) :
    Calls Try.prog 47 #[.slice x.a x.l.length x.c, .slice a v.length c] w fun e w' => e = .returned (.bool (begV x.l v)) ∧ Below w.heap.size w w' := by
  have hle := hx.le
  have hcap := hx.cap
  unfold maxLen at hl hcap
  by_cases h1 : v.length ≤ x.l.length
  · have h1' : (v.length : Int) ≤ (x.l.length : Int) := by omega
    have hlen : (x.l.take v.length).length = v.length := by simp; omega
    have hs := same_list x.a a x.c c (x.l.take v.length) v w (hx.rd.take v.length) hv (by unfold maxLen; rw [hlen]; omega)
    rw [hlen] at hs
    have HE := hide (show begV x.l v = decide (x.l.take v.length = v) by unfold begV; simp [h1])
    have h2 : (v.length : Int) ≤ (x.c : Int) := by omega
    clear hlen
    generalize decide (x.l.take v.length = v) = bb at *
    cases hxa : x.a with
    | none =>
      have := hx.nil hxa
      have hv0 : v.length = 0 := by omega
      have hc0 : x.c = 0 := this.2
      have hl0 : x.l.length = 0 := this.1
      rw [hxa, hv0, hc0] at hs
      rw [hv0, hc0, hl0]
      clear h1 h1' h2 hle hcap hl hx hv
      go_enter Try.func47, Try.ntmps47
      go_wp2_with fail
      refine hs.mono ?_
      rintro e w1 ⟨rfl, hb1⟩
      go_wp2
      go_ret
      exact ⟨by rw [unhide HE]; rfl, hb1⟩
    | some ad =>
      rw [hxa] at hs
      clear hx hv
      go_enter Try.func47, Try.ntmps47
      go_wp2_with fail
      refine hs.mono ?_
      rintro e w1 ⟨rfl, hb1⟩
      go_wp2
      go_ret
      exact ⟨by rw [unhide HE]; rfl, hb1⟩
  · have h1' : ¬ ((v.length : Int) ≤ (x.l.length : Int)) := by omega
    have HE := hide (show begV x.l v = false by unfold begV; simp [h1])
    go_enter Try.func47, Try.ntmps47
    go_wp2
    go_ret
    exact ⟨by rw [unhide HE]; rfl, Below.refl _ _⟩

end Go.Proofs.Ytemalidanjfmkaa
