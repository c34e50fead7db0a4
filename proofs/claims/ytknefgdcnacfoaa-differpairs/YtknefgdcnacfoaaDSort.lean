/-
  What sortByPair of differ leaves: the marks in the order of their pairs.
-/
import Derived.Test.YtknefgdcnacfoaaDCmp
import Derived.Test.YtknefgdcnacfoaaDPairI
import Derived.Shelf.SlSortCmp.NoneTotal
namespace Go.Proofs.Ytknefgdcnacfoaa
open Go.RowKit Go.Maps Go.Shelf Go.Sort

theorem cmI_lt {a b : Int} (h : a < b) : cmI a b = -1 := by unfold cmI; rw [if_pos h]
theorem cmI_gt {a b : Int} (h : b < a) : cmI a b = 1 := by unfold cmI; rw [if_neg (by omega), if_pos h]
theorem cmI_eq {a b : Int} (h : a = b) : cmI a b = 0 := by unfold cmI; rw [if_neg (by omega), if_neg (by omega)]
theorem cf_lt (a b : Mrk) : ltOf cfP a b = true ↔ PltM a b := by
  unfold ltOf cfP PltM
  rw [decide_eq_true_eq]
  rcases Nat.lt_trichotomy a.s b.s with h | h | h
  · rw [cmI_lt (show (a.s : Int) < (b.s : Int) by omega), if_neg (by omega)]
    exact ⟨fun _ => .inl h, fun _ => by omega⟩
  · rw [cmI_eq (show (a.s : Int) = (b.s : Int) by omega), if_pos rfl]
    rcases Nat.lt_trichotomy a.t b.t with k | k | k
    · rw [cmI_lt (show (a.t : Int) < (b.t : Int) by omega)]
      exact ⟨fun _ => .inr ⟨h, k⟩, fun _ => by omega⟩
    · rw [cmI_eq (show (a.t : Int) = (b.t : Int) by omega)]
      exact ⟨fun _ => by omega, fun _ => by omega⟩
    · rw [cmI_gt (show (b.t : Int) < (a.t : Int) by omega)]
      exact ⟨fun _ => by omega, fun _ => by omega⟩
  · rw [cmI_gt (show (b.s : Int) < (a.s : Int) by omega), if_neg (by omega)]
    exact ⟨fun _ => by omega, fun _ => by omega⟩
theorem cf_nlt (a b : Mrk) : ltOf cfP a b = false ↔ ¬ PltM a b := by
  rw [← cf_lt]; simp
theorem cf_swo : SWO (ltOf cfP) :=
  ⟨fun x => (cf_nlt x x).2 (by unfold PltM; omega), fun x y z h1 h2 => (cf_lt x z).2 (by have := (cf_lt x y).1 h1; have := (cf_lt y z).1 h2; unfold PltM at *; omega),
   fun x y z h1 h2 => (cf_nlt x z).2 (by have := (cf_nlt x y).1 h1; have := (cf_nlt y z).1 h2; unfold PltM at *; omega)⟩
instance : Inhabited Mrk := ⟨mk0⟩
theorem arr_at (d : Array Mrk) (i : Nat) : d[i]! = d.toList.getD i mk0 := by
  rw [List.getD_eq_getElem?_getD, Array.getElem?_toList]
  by_cases h : i < d.size
  · rw [getElem!_pos d i h, Array.getElem?_eq_getElem h]; rfl
  · rw [getElem!_neg d i h, Array.getElem?_eq_none (by omega)]; rfl
theorem flat_at (d : Array Mrk) (j : Nat) (h : j < d.size * 4) : some ((flatK mkl 4 d)[j]!) = (d.toList.flatMap mkl)[j]? := by
  have e : j / 4 * 4 + j % 4 = j := by omega
  have h1 := fm_get mkl_len mk0 d.toList (j / 4) (j % 4) (by simp; omega) (by omega)
  rw [e] at h1
  rw [h1, get_flatK _ _ _ _ h, arr_at]
  have hl : j % 4 < (mkl (d.toList.getD (j / 4) mk0)).length := by rw [mkl_len]; omega
  rw [getElem!_pos (mkl (d.toList.getD (j / 4) mk0)) (j % 4) hl, List.getElem?_eq_getElem hl]
theorem sw_blk (w : World) (g n : Nat) (d : Array Mrk) (os : Array Obj) (j : Nat) (hj : j < w.heap.size) (hne : j ≠ g) : (sortWorldK mkl 4 w g 0 n d os).heap[j]? = w.heap[j]? := by
  show ((w.heap.modify g (onCells (putCells id 0 (flatK mkl 4 d)))) ++ os)[j]? = _
  rw [Array.getElem?_append_left (by simpa using hj), Array.getElem?_modify, if_neg (fun e => hne e.symm)]
theorem sw_row (w : World) (g n : Nat) (d : Array Mrk) (os : Array Obj) {c : Array Value} {e : TypeId} {fr : Nat × Nat} (h : w.heap[g]? = some (.cells c e fr)) : (sortWorldK mkl 4 w g 0 n d os).heap[g]? = some (.cells (putCells id 0 (flatK mkl 4 d) c) e fr) := by
  have hg := (Array.getElem?_eq_some_iff.1 h).1
  show ((w.heap.modify g (onCells (putCells id 0 (flatK mkl 4 d)))) ++ os)[g]? = _
  rw [Array.getElem?_append_left (by simpa using hg), Array.getElem?_modify, if_pos rfl, h]
  rfl
theorem sw_own {w : World} {B g cap : Nat} {MK : List Mrk} (h : OwnG 72 4 mkl w B (.slice (some ⟨g, 0, none⟩) MK.length cap) MK) {d : Array Mrk} (hd : d.size = MK.length) (n : Nat) (os : Array Obj) : OwnG 72 4 mkl (sortWorldK mkl 4 w g 0 n d os) B (.slice (some ⟨g, 0, none⟩) MK.length cap) d.toList := by
  obtain ⟨h1, h2⟩ := h
  have hl : d.toList.length = MK.length := by simpa using hd
  rcases h2 with ⟨h2, _⟩ | ⟨g', cap', cur, e, hg, hc, hn, hm, hs, ht⟩
  · cases h2
  · cases e
    refine ⟨fm_len mkl_len _, .inr ⟨g, cap, _, by rw [hl], hg, sw_row w g n d os hc, by rw [hl]; exact hn, hm, by simp [putCells, hs], ?_⟩⟩
    rw [hl]
    refine List.ext_getElem? fun j => ?_
    by_cases hj : j < MK.length * 4
    · have hc2 : j < cur.size := by rw [hs]; have := Nat.mul_le_mul_right 4 hn; omega
      rw [List.getElem?_take_of_lt hj, ← flat_at d j (by omega), Array.getElem?_toList]
      unfold putCells
      rw [Array.getElem?_mapIdx, Array.getElem?_eq_getElem hc2, Option.map_some, if_pos ⟨Nat.zero_le _, by rw [size_flatK]; omega⟩]
      rfl
    · rw [List.getElem?_eq_none (by simp; omega), List.getElem?_eq_none (by rw [fm_len mkl_len, hl]; omega)]
theorem sorted_list {d : Array Mrk} (h : SortedIn (ltOf cfP) 0 d.size d) : d.toList.Pairwise (fun a b => ¬ PltM b a) := by
  rw [List.pairwise_iff_getElem]
  intro i j hi hj hij
  have h1 := (cf_nlt _ _).1 (h i j (Nat.zero_le _) hij (by simpa using hj))
  rw [getElem!_pos d i (by simpa using hi), getElem!_pos d j (by simpa using hj)] at h1
  simpa using h1
theorem sortByPair_any (B : Nat) (vk : Value) (MK : List Mrk) (w : World) (h : OwnG 72 4 mkl w B vk MK) (hz : MK.length ≤ 1048576) : Calls Try.prog 35 #[vk] w fun e w' => StPost w B vk MK e w' := by
  by_cases h0 : MK = []
  · subst h0
    obtain ⟨a, c, rfl⟩ := h.shape
    have HS := hide (AnyF.slices_SortFunc_none (P := Try.prog) sortF a c (.func (.func 55) #[] #[]) w)
    have HF : Hid (StPost w B (.slice a 0 c) [] (.returned (.tuple #[])) w) := ⟨rfl, [], List.Perm.refl _, List.Pairwise.nil, h, Bx.refl _ _⟩
    clear h
    go_enter Try.func35, Try.ntmps35
    go_wp2_with fail
    refine (unhide HS).mono ?_
    rintro e w1 ⟨rfl, hw⟩
    subst hw
    go_wp2
    go_end0
    exact unhide HF
  · obtain ⟨g, cap, rfl, hn, hm, hg, hgz, hc, hf⟩ := h.pos mkl_len mk0 (List.length_pos_iff.2 h0)
    have HH : HoldsK mkl 4 w g 0 MK.toArray := fun j hj => by
      rw [size_flatK] at hj
      have hj' : j < MK.length * 4 := by simpa using hj
      refine ⟨?_, hf _⟩
      have e : j / 4 * 4 + j % 4 = j := by omega
      have h1 := hc (j / 4) (j % 4) (by omega) (by omega)
      have h2 := fm_get mkl_len mk0 MK (j / 4) (j % 4) (by omega) (by omega)
      rw [e] at h1 h2
      rw [Nat.zero_add, h1, ← h2]
      exact (flat_at MK.toArray j hj).symm
    have HC : CmpLays Try.prog 55 #[] mkl 4 cfP g 0 MK.toArray.size w := fun m os dk _ x y => byPair_any x y _
    have HS := AnyQ.slices_SortFunc (P := Try.prog) sortF 4 Try.isAgg72 Try.sizeOf72 mkl mkl_len eMark.one cfP cf_swo 55 #[] g 0 cap MK.toArray w (enters_of Try.func55 (by kernel_rfl) rfl) HC HH hgz (by simp; omega)
    have HS2 : Hid (Calls Try.prog 54 #[.slice (some ⟨g, 0, none⟩) MK.length cap, .func (.func 55) #[] #[]] w fun e w' => StPost w B (.slice (some ⟨g, 0, none⟩) MK.length cap) MK e w') := HS.mono fun e w' hp => by
      obtain ⟨he, d', n, os, hp, hs, rfl⟩ := hp
      have hz : d'.size = MK.length := by simpa using hp.1
      refine ⟨he, d'.toList, ?_, ?_, sw_own h hz n os, ?_⟩
      · have := hp.2.2
        simpa [hz, List.take_of_length_le] using this
      · rw [show MK.toArray.size = d'.size by simp [hz]] at hs
        exact sorted_list hs
      · refine ⟨rfl, rfl, rfl, ?_, fun j hj hx => sw_blk w g n d' os j hj fun e => hx (by rw [e]; rfl)⟩
        show w.heap.size ≤ ((w.heap.modify g _) ++ os).size
        simp
    clear HS HH HC hc hf h
    go_enter Try.func35, Try.ntmps35
    go_wp2_with fail
    refine (unhide HS2).mono ?_
    intro e w1 hp
    have he : e = .returned (.tuple #[]) := hp.1
    subst he
    have HP := hide hp
    clear hp
    go_wp2
    go_end0
    exact unhide HP
theorem sortC : SortC := fun B vk MK w h hz => sortByPair_any B vk MK w h hz
end Go.Proofs.Ytknefgdcnacfoaa
