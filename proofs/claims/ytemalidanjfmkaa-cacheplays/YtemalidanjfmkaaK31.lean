/-
  Some texts of this seat, one behind the other.
-/
import Derived.Test.YtemalidanjfmkaaK28
/-
  How a slice of calls (a number and two lists each) that came in is opened: as a slice of answers is.
-/
namespace Go.Proofs.Ytemalidanjfmkaa
open Go.ChangeShapes Go.WideShapes Go.ChangeAt Go.RowKit Go.Deep

set_option maxRecDepth 100000 in
/-- Three cells that are a call. -/
theorem open_threeC {w : World} {H : Type} {enc : TypeId × Value → H} {n : Nat} {cs : List Value} {x : DataW H × List MemPlace} (h : DataW.trod enc Try.prog w 0 (fun _ => true) true n 40 cs = some x) : ∃ p : Pa, cs = paC p ∧ ArgPa w p := by
  obtain ⟨xs, k, -, -, hlen, hxl, hf⟩ := DataW.trod_struct Try.underlying40 h
  have h3 : Try.prog.cellsOf 40 = 3 := by kernel_rfl
  rw [h3] at hlen
  match xs, hxl, cs, hlen with
  | [y0, y1, y2], _, [v0, v1, v2], _ =>
    have g0 := hf 0 _ rfl
    have g1 := hf 1 _ rfl
    have g2 := hf 2 _ rfl
    simp only [List.getElem?_cons_zero, List.getElem?_cons_succ] at g0 g1 g2
    obtain ⟨k0, rfl, f0⟩ := fitI g0
    obtain ⟨a1, l1, d1, rfl, A1⟩ := sliI g1
    obtain ⟨a2, l2, d2, rfl, A2⟩ := sliI g2
    exact ⟨⟨⟨k0, l1, l2⟩, a1, d1, a2, d2⟩, rfl, A1, A2, f0⟩

set_option maxRecDepth 100000 in
theorem open_acts {H : Type} {enc : TypeId × Value → H} {W : World} {a : Option Addr} {len cap : Nat} {d : DataW H} {p : List MemPlace}
    (h : DataW.Trod enc Try.prog W 0 (fun _ => true) true 22 (.slice a len cap) d p) : ∃ l : List Pa, l.length = len ∧ ArgPs W a cap l := by
  obtain ⟨fuel, hf⟩ := h
  have h3 : Try.prog.cellsOf 40 = 3 := by kernel_rfl
  rcases open_slice Try.underlying22 hf with ⟨hcs, _⟩ | ⟨x, l, c, m, n, D, Pl, hcs, _, hl, hm, hmm, _, hx⟩
  · simp [Value.cells] at hcs
    obtain ⟨rfl, rfl, rfl⟩ := hcs
    exact ⟨[], rfl, ⟨⟨.inl rfl, fun p hp => (by cases hp)⟩, fun p hp => (by cases hp), fun _ => ⟨rfl, rfl⟩, Nat.le_refl _, Nat.zero_le _⟩⟩
  · simp [Value.cells] at hcs
    obtain ⟨rfl, rfl, rfl⟩ := hcs
    simp only [if_true] at hmm
    have each : ∀ i, i < len → ∃ q : Pa, ArgPa W q ∧ ∀ j, j < 3 → W.cell? (x.add (i * 3 + j)) = (paC q)[j]? := fun i hi => by
      obtain ⟨cs', h1, h2⟩ := hx i (by omega)
      rw [h3] at h1
      obtain ⟨q, rfl, A⟩ := open_threeC h2
      obtain ⟨_, hlen, hcell⟩ := World.cells?_some h1
      refine ⟨q, A, fun j hj => ?_⟩
      have := hcell j (by omega)
      rw [add_add] at this
      exact this
    have hi : Inhabited Pa := ⟨⟨⟨0, [], []⟩, none, 0, none, 0⟩⟩
    obtain ⟨q, hq⟩ := choose_lt each
    have hlen : ((List.range len).map q).length = len := by simp
    refine ⟨(List.range len).map q, hlen, ⟨⟨?_, fun p hp => ?_⟩, fun p hp => ?_, fun e => (by cases e), by omega, hm⟩⟩
    · by_cases h0 : len = 0
      · left; subst h0; rfl
      · obtain ⟨b, off, spot⟩ := x
        have hc := (hq 0 (by omega)).2 0 (by omega)
        have hspot : spot = none := by
          have := hc
          simp only [paC, List.getElem?_cons_zero] at this
          simpa [Addr.add] using World.cell?_spot this
        subst hspot
        refine .inr ⟨b, off, rfl, fun i hi j hj => ?_⟩
        rw [hlen] at hi
        have := (hq i hi).2 j hj
        rw [add_at] at this
        rw [this]
        simp
    · obtain ⟨i, hi, rfl⟩ := List.mem_map.1 hp
      exact (hq i (List.mem_range.1 hi)).1.rd
    · obtain ⟨i, hi, rfl⟩ := List.mem_map.1 hp
      exact (hq i (List.mem_range.1 hi)).1

end Go.Proofs.Ytemalidanjfmkaa

/-
  How a slice of calls that came in is opened, with how much room its lists have.
-/
namespace Go.Proofs.Ytemalidanjfmkaa
open Go.ChangeShapes Go.WideShapes Go.ChangeAt Go.RowKit Go.Deep

theorem sliJ {w : World} {H : Type} {enc : TypeId × Value → H} {n : Nat} {v : Value} {y : DataW H × List MemPlace} (h : DataW.trod enc Try.prog w 0 (fun _ => true) true n 29 [v] = some y) : ∃ a l c, v = .slice a (List.length l) c ∧ ArgL .i64 0 w a c l ∧ c ≤ maxLen := by
  obtain ⟨a, l, c, rfl, A⟩ := sliI h
  refine ⟨a, l, c, rfl, A, ?_⟩
  rcases open_slice Try.underlying29 h with ⟨hcs, _⟩ | ⟨a', len', cap', m, n, D, Pl, hcs, _, hl, hm, _⟩
  · simp at hcs
    rw [hcs.2.2]; exact Nat.zero_le _
  · simp at hcs
    rw [hcs.2.2]; exact hm

set_option maxRecDepth 100000 in
/-- Three cells that are a call. -/
theorem open_threeD {w : World} {H : Type} {enc : TypeId × Value → H} {n : Nat} {cs : List Value} {x : DataW H × List MemPlace} (h : DataW.trod enc Try.prog w 0 (fun _ => true) true n 40 cs = some x) : ∃ p : Pa, cs = paC p ∧ ArgPa w p ∧ p.c1 ≤ maxLen ∧ p.c2 ≤ maxLen := by
  obtain ⟨xs, k, -, -, hlen, hxl, hf⟩ := DataW.trod_struct Try.underlying40 h
  have h3 : Try.prog.cellsOf 40 = 3 := by kernel_rfl
  rw [h3] at hlen
  match xs, hxl, cs, hlen with
  | [y0, y1, y2], _, [v0, v1, v2], _ =>
    have g0 := hf 0 _ rfl
    have g1 := hf 1 _ rfl
    have g2 := hf 2 _ rfl
    simp only [List.getElem?_cons_zero, List.getElem?_cons_succ] at g0 g1 g2
    obtain ⟨k0, rfl, f0⟩ := fitI g0
    obtain ⟨a1, l1, d1, rfl, A1, B1⟩ := sliJ g1
    obtain ⟨a2, l2, d2, rfl, A2, B2⟩ := sliJ g2
    exact ⟨⟨⟨k0, l1, l2⟩, a1, d1, a2, d2⟩, rfl, ⟨A1, A2, f0⟩, B1, B2⟩

set_option maxRecDepth 100000 in
theorem open_actsD {H : Type} {enc : TypeId × Value → H} {W : World} {a : Option Addr} {len cap : Nat} {d : DataW H} {p : List MemPlace}
    (h : DataW.Trod enc Try.prog W 0 (fun _ => true) true 22 (.slice a len cap) d p) : ∃ l : List Pa, l.length = len ∧ ArgPs W a cap l ∧ ∀ p ∈ l, p.c1 ≤ maxLen ∧ p.c2 ≤ maxLen := by
  obtain ⟨fuel, hf⟩ := h
  have h3 : Try.prog.cellsOf 40 = 3 := by kernel_rfl
  rcases open_slice Try.underlying22 hf with ⟨hcs, _⟩ | ⟨x, l, c, m, n, D, Pl, hcs, _, hl, hm, hmm, _, hx⟩
  · simp [Value.cells] at hcs
    obtain ⟨rfl, rfl, rfl⟩ := hcs
    exact ⟨[], rfl, ⟨⟨.inl rfl, fun p hp => (by cases hp)⟩, fun p hp => (by cases hp), fun _ => ⟨rfl, rfl⟩, Nat.le_refl _, Nat.zero_le _⟩, fun p hp => (by cases hp)⟩
  · simp [Value.cells] at hcs
    obtain ⟨rfl, rfl, rfl⟩ := hcs
    simp only [if_true] at hmm
    have each : ∀ i, i < len → ∃ q : Pa, (ArgPa W q ∧ q.c1 ≤ maxLen ∧ q.c2 ≤ maxLen) ∧ ∀ j, j < 3 → W.cell? (x.add (i * 3 + j)) = (paC q)[j]? := fun i hi => by
      obtain ⟨cs', h1, h2⟩ := hx i (by omega)
      rw [h3] at h1
      obtain ⟨q, rfl, A⟩ := open_threeD h2
      obtain ⟨_, hlen, hcell⟩ := World.cells?_some h1
      refine ⟨q, A, fun j hj => ?_⟩
      have := hcell j (by omega)
      rw [add_add] at this
      exact this
    have hi : Inhabited Pa := ⟨⟨⟨0, [], []⟩, none, 0, none, 0⟩⟩
    obtain ⟨q, hq⟩ := choose_lt each
    have hlen : ((List.range len).map q).length = len := by simp
    refine ⟨(List.range len).map q, hlen, ⟨⟨?_, fun p hp => ?_⟩, fun p hp => ?_, fun e => (by cases e), by omega, hm⟩, fun p hp => ?_⟩
    · by_cases h0 : len = 0
      · left; subst h0; rfl
      · obtain ⟨b, off, spot⟩ := x
        have hc := (hq 0 (by omega)).2 0 (by omega)
        have hspot : spot = none := by
          have := hc
          simp only [paC, List.getElem?_cons_zero] at this
          simpa [Addr.add] using World.cell?_spot this
        subst hspot
        refine .inr ⟨b, off, rfl, fun i hi j hj => ?_⟩
        rw [hlen] at hi
        have := (hq i hi).2 j hj
        rw [add_at] at this
        rw [this]
        simp
    · obtain ⟨i, hi, rfl⟩ := List.mem_map.1 hp
      exact (hq i (List.mem_range.1 hi)).1.1.rd
    · obtain ⟨i, hi, rfl⟩ := List.mem_map.1 hp
      exact (hq i (List.mem_range.1 hi)).1.1
    · obtain ⟨i, hi, rfl⟩ := List.mem_map.1 hp
      exact (hq i (List.mem_range.1 hi)).1.2

end Go.Proofs.Ytemalidanjfmkaa

/-
  much of layer 11's laws: is more asked than is played?
-/
namespace Go.Proofs.Ytemalidanjfmkaa
open Go.RowKit

theorem RdPs.low {w w' : World} {a : Option Addr} {l : List Pa} (h : RdPs w a l) (hb : Below w.heap.size w w') : RdPs w' a l := by
  refine ⟨?_, fun p hp => ⟨(h.row p hp).out.below hb, (h.row p hp).word.below hb⟩⟩
  rcases h.top with h0 | ⟨b, off, e, hc⟩
  · exact .inl h0
  · refine .inr ⟨b, off, e, fun i hi j hj => ?_⟩
    have h1 := hc i hi j hj
    have hl : j < (paC l[i]).length := hj
    rw [List.getElem?_eq_getElem hl] at h1 ⊢
    exact (hb.cell (World.block_lt_of_cell? w _ h1)).trans h1
theorem pa_lit (w : World) (p : Pa) (t : TypeId) : ∀ j u, (paC p)[j]? = some u → (w.alloc (.cells #[.int .i64 p.an.kind, .slice p.a1 p.an.out.length p.c1, .slice p.a2 p.an.word.length p.c2] t)).cell? ⟨w.heap.size, j, none⟩ = some u := fun j u hj => by
  have hj3 : j < 3 := (List.getElem?_eq_some_iff.1 hj).1
  match j, hj3 with
  | 0, _ => simpa [paC] using hj
  | 1, _ => simpa [paC] using hj
  | 2, _ => simpa [paC] using hj
/-- What much lets pass. -/
def Mod (l : List Pa) : Prop := l.length ≤ 60 ∧ ∀ p ∈ l, (p.an.out.length ≤ 60 ∨ 4096 < p.an.out.length) ∧ p.an.out.length ≤ 5000 ∧ p.an.word.length ≤ 5000
def MuPost (l : List Pa) (w : World) (e : Ending) (w' : World) : Prop := ∃ b, e = .returned (.bool b) ∧ (b = false → Mod l) ∧ w' = w

set_option maxRecDepth 100000 in
set_option maxHeartbeats 2000000 in
theorem much_any (a : Option Addr) (c : Nat) (l : List Pa) (w : World) (hr : RdPs w a l) :
    Calls Try.prog 9 #[.slice a l.length c] w fun e w' => MuPost l w e w' := by
  by_cases hm : (l.length : Int) > 60
  · go_enter Try.func9, Try.ntmps9
    go_wp2
    go_ret
    exact ⟨true, rfl, (fun e => by cases e), rfl⟩
  have HR := hide hr
  clear hr
  go_enter Try.func9, Try.ntmps9
  go_wp2
  go_loopw [3] (fun i wr => ∃ I : Nat, i = .int .i64 (I : Int) ∧ I ≤ l.length ∧ wr = w ∧ Hid (∀ j (h : j < l.length), j < I → (l[j].an.out.length ≤ 60 ∨ 4096 < l[j].an.out.length) ∧ l[j].an.out.length ≤ 5000 ∧ l[j].an.word.length ≤ 5000)) (fun i _ => l.length - (intOf i).toNat)
  case atStart => exact ⟨0, rfl, Nat.zero_le _, rfl, hide fun j _ h => by omega⟩
  case round =>
    obtain ⟨I, rfl, hI, hw, HV⟩ := hrel
    subst hw
    by_cases hlt : I < l.length
    · have hlt' : (I : Int) < (l.length : Int) := by omega
      obtain ⟨b, off, rfl, hc⟩ := (unhide HR).at hlt
      obtain ⟨-, c1, c2⟩ := hc I hlt
      have HN : Hid ((l[I].an.out.length ≤ 60 ∨ 4096 < l[I].an.out.length) ∧ l[I].an.out.length ≤ 5000 ∧ l[I].an.word.length ≤ 5000 → ∀ j (h : j < l.length), j < I + 1 → (l[j].an.out.length ≤ 60 ∨ 4096 < l[j].an.out.length) ∧ l[j].an.out.length ≤ 5000 ∧ l[j].an.word.length ≤ 5000) := fun h0 j hj hj2 => by
        by_cases e : j = I
        · subst e; exact h0
        · exact unhide HV j hj (by omega)
      generalize l[I].an.out.length = X at *
      generalize l[I].an.word.length = Y at *
      generalize l[I].a1 = A1 at *
      generalize l[I].a2 = A2 at *
      generalize l[I].c1 = C1 at *
      generalize l[I].c2 = C2 at *
      clear hc HR
      by_cases t1 : (X : Int) > 60
      · have d1 : decide ((X : Int) > 60) = true := decide_eq_true t1
        by_cases t2 : (X : Int) ≤ 4096
        · have d2 : decide ((X : Int) ≤ 4096) = true := decide_eq_true t2
          go_wp2
          go_ret
          exact ⟨true, rfl, (fun e => by cases e), rfl⟩
        · have d2 : decide ((X : Int) ≤ 4096) = false := decide_eq_false t2
          by_cases t3 : (X : Int) > 5000
          · have d3 : decide ((X : Int) > 5000) = true := decide_eq_true t3
            go_wp2
            go_ret
            exact ⟨true, rfl, (fun e => by cases e), rfl⟩
          · have d3 : decide ((X : Int) > 5000) = false := decide_eq_false t3
            by_cases t4 : (Y : Int) > 5000
            · have d4 : decide ((Y : Int) > 5000) = true := decide_eq_true t4
              go_wp2
              go_ret
              exact ⟨true, rfl, (fun e => by cases e), rfl⟩
            · have d4 : decide ((Y : Int) > 5000) = false := decide_eq_false t4
              go_wp2
              go_roundw
              case rel => exact ⟨I + 1, by go_num, by omega, trivial, hide (unhide HN ⟨by omega, by omega, by omega⟩)⟩
              case measure => simp [intOf]; omega
      · have d1 : decide ((X : Int) > 60) = false := decide_eq_false t1
        have d3 : decide ((X : Int) > 5000) = false := decide_eq_false (by omega)
        by_cases t4 : (Y : Int) > 5000
        · have d4 : decide ((Y : Int) > 5000) = true := decide_eq_true t4
          go_wp2
          go_ret
          exact ⟨true, rfl, (fun e => by cases e), rfl⟩
        · have d4 : decide ((Y : Int) > 5000) = false := decide_eq_false t4
          go_wp2
          go_roundw
          case rel => exact ⟨I + 1, by go_num, by omega, trivial, hide (unhide HN ⟨by omega, by omega, by omega⟩)⟩
          case measure => simp [intOf]; omega
    · have HM : Hid (Mod l) := ⟨by omega, fun p hp => by
        obtain ⟨j, hj, rfl⟩ := List.mem_iff_getElem.1 hp
        exact unhide HV j hj (by omega)⟩
      have hlt' : ¬ (I : Int) < (l.length : Int) := by omega
      clear HV HR
      go_wp2
      go_ret
      exact ⟨false, rfl, fun _ => unhide HM, rfl⟩

end Go.Proofs.Ytemalidanjfmkaa
