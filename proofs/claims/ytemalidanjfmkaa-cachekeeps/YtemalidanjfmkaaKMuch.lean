/-
  much of layer 11's laws: is more asked than is played?
-/
import Derived.Test.YtemalidanjfmkaaK28
import Derived.Test.YtemalidanjfmkaaArgC
namespace Go.Proofs.Ytemalidanjfmkaa
open Go.RowKit

theorem RdPs.low {w w' : World} {a : Option Addr} {l : List Pa} (h : RdPs w a l) (hb : Below w.heap.size w w') : RdPs w' a l := by
  refine ⟨?_, fun p hp => ⟨(h.row p hp).out.below hb, (h.row p hp).word.below hb⟩⟩
  rcases h.top with h0 | ⟨b, off, e, hc⟩
  · exact .inl h0
  · refine .inr ⟨b, off, e, fun i hi j hj => ?_⟩
    have h1 := hc i hi j hj
    have hl : j < (paC l[i]).length := hj
    rw [List.getElem?_eq_getElem hl] at h1 ⊢
    exact (hb.cell (World.block_lt_of_cell? w _ h1)).trans h1
theorem pa_lit (w : World) (p : Pa) (t : TypeId) : ∀ j u, (paC p)[j]? = some u → (w.alloc (.cells #[.int .i64 p.an.kind, .slice p.a1 p.an.out.length p.c1, .slice p.a2 p.an.word.length p.c2] t)).cell? ⟨w.heap.size, j, none⟩ = some u := fun j u hj => by
  have hj3 : j < 3 := (List.getElem?_eq_some_iff.1 hj).1
  match j, hj3 with
  | 0, _ => simpa [paC] using hj
  | 1, _ => simpa [paC] using hj
  | 2, _ => simpa [paC] using hj
/-- What much lets pass. -/
def Mod (l : List Pa) : Prop := l.length ≤ 60 ∧ ∀ p ∈ l, (p.an.out.length ≤ 60 ∨ 4096 < p.an.out.length) ∧ p.an.out.length ≤ 5000 ∧ p.an.word.length ≤ 5000
def MuPost (l : List Pa) (w : World) (e : Ending) (w' : World) : Prop := ∃ b, e = .returned (.bool b) ∧ (b = false → Mod l) ∧ w' = w

set_option maxRecDepth 100000 in
set_option maxHeartbeats 2000000 in
theorem much_any (a : Option Addr) (c : Nat) (l : List Pa) (w : World) (hr : RdPs w a l) :
    Calls Try.prog 9 #[.slice a l.length c] w fun e w' => MuPost l w e w' := by
  by_cases hm : (l.length : Int) > 60
  · go_enter Try.func9, Try.ntmps9
    go_wp2
    go_ret
    exact ⟨true, rfl, (fun e => by cases e), rfl⟩
  have HR := hide hr
  clear hr
  go_enter Try.func9, Try.ntmps9
  go_wp2
  go_loopw [3] (fun i wr => ∃ I : Nat, i = .int .i64 (I : Int) ∧ I ≤ l.length ∧ wr = w ∧ Hid (∀ j (h : j < l.length), j < I → (l[j].an.out.length ≤ 60 ∨ 4096 < l[j].an.out.length) ∧ l[j].an.out.length ≤ 5000 ∧ l[j].an.word.length ≤ 5000)) (fun i _ => l.length - (intOf i).toNat)
  case atStart => exact ⟨0, rfl, Nat.zero_le _, rfl, hide fun j _ h => by omega⟩
  case round =>
    obtain ⟨I, rfl, hI, hw, HV⟩ := hrel
    subst hw
    by_cases hlt : I < l.length
    · have hlt' : (I : Int) < (l.length : Int) := by omega
      obtain ⟨b, off, rfl, hc⟩ := (unhide HR).at hlt
      obtain ⟨-, c1, c2⟩ := hc I hlt
      have HN : Hid ((l[I].an.out.length ≤ 60 ∨ 4096 < l[I].an.out.length) ∧ l[I].an.out.length ≤ 5000 ∧ l[I].an.word.length ≤ 5000 → ∀ j (h : j < l.length), j < I + 1 → (l[j].an.out.length ≤ 60 ∨ 4096 < l[j].an.out.length) ∧ l[j].an.out.length ≤ 5000 ∧ l[j].an.word.length ≤ 5000) := fun h0 j hj hj2 => by
        by_cases e : j = I
        · subst e; exact h0
        · exact unhide HV j hj (by omega)
      generalize l[I].an.out.length = X at *
      generalize l[I].an.word.length = Y at *
      generalize l[I].a1 = A1 at *
      generalize l[I].a2 = A2 at *
      generalize l[I].c1 = C1 at *
      generalize l[I].c2 = C2 at *
      clear hc HR
      by_cases t1 : (X : Int) > 60
      · have d1 : decide ((X : Int) > 60) = true := decide_eq_true t1
        by_cases t2 : (X : Int) ≤ 4096
        · have d2 : decide ((X : Int) ≤ 4096) = true := decide_eq_true t2
          go_wp2
          go_ret
          exact ⟨true, rfl, (fun e => by cases e), rfl⟩
        · have d2 : decide ((X : Int) ≤ 4096) = false := decide_eq_false t2
          by_cases t3 : (X : Int) > 5000
          · have d3 : decide ((X : Int) > 5000) = true := decide_eq_true t3
            go_wp2
            go_ret
            exact ⟨true, rfl, (fun e => by cases e), rfl⟩
          · have d3 : decide ((X : Int) > 5000) = false := decide_eq_false t3
            by_cases t4 : (Y : Int) > 5000
            · have d4 : decide ((Y : Int) > 5000) = true := decide_eq_true t4
              go_wp2
              go_ret
              exact ⟨true, rfl, (fun e => by cases e), rfl⟩
            · have d4 : decide ((Y : Int) > 5000) = false := decide_eq_false t4
              go_wp2
              go_roundw
              case rel => exact ⟨I + 1, by go_num, by omega, trivial, hide (unhide HN ⟨by omega, by omega, by omega⟩)⟩
              case measure => simp [intOf]; omega
      · have d1 : decide ((X : Int) > 60) = false := decide_eq_false t1
        have d3 : decide ((X : Int) > 5000) = false := decide_eq_false (by omega)
        by_cases t4 : (Y : Int) > 5000
        · have d4 : decide ((Y : Int) > 5000) = true := decide_eq_true t4
          go_wp2
          go_ret
          exact ⟨true, rfl, (fun e => by cases e), rfl⟩
        · have d4 : decide ((Y : Int) > 5000) = false := decide_eq_false t4
          go_wp2
          go_roundw
          case rel => exact ⟨I + 1, by go_num, by omega, trivial, hide (unhide HN ⟨by omega, by omega, by omega⟩)⟩
          case measure => simp [intOf]; omega
    · have HM : Hid (Mod l) := ⟨by omega, fun p hp => by
        obtain ⟨j, hj, rfl⟩ := List.mem_iff_getElem.1 hp
        exact unhide HV j hj (by omega)⟩
      have hlt' : ¬ (I : Int) < (l.length : Int) := by omega
      clear HV HR
      go_wp2
      go_ret
      exact ⟨false, rfl, fun _ => unhide HM, rfl⟩

end Go.Proofs.Ytemalidanjfmkaa
