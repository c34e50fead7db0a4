/-
  The marks in the order of their pairs: the words that Pairs lists.
-/
import Derived.Test.YtknefgdcnacfoaaDSvO
import Derived.Test.YtknefgdcnacfoaaUSivS
import Derived.Test.YtknefgdcnacfoaaK19
namespace Go.Proofs.Ytknefgdcnacfoaa
open Go.RowKit Go.Maps

def PltM (a b : Mrk) : Prop := a.s < b.s ∨ (a.s = b.s ∧ a.t < b.t)
def StPost (w : World) (B : Nat) (vk : Value) (MK : List Mrk) (e : Ending) (w' : World) : Prop :=
  e = .returned (.tuple #[]) ∧ ∃ MK', MK'.Perm MK ∧ MK'.Pairwise (fun a b => ¬ PltM b a) ∧ OwnG 72 4 mkl w' B vk MK' ∧ Bx (fun j => vk.ownBlock = some j) w w'
/-- What is asked of sortByPair. -/
def SortC : Prop := ∀ (B : Nat) (vk : Value) (MK : List Mrk) (w : World), OwnG 72 4 mkl w B vk MK → MK.length ≤ 1048576 → Calls Try.prog 35 #[vk] w fun e w' => StPost w B vk MK e w'
structure PkI (w : World) (B : Nat) (MK : List Mrk) (W : List (List Int)) : Prop where
  len : W.length = MK.length
  wd : ∀ i, i < W.length → (MK.getD i mk0).wn = (W.getD i []).length ∧ OwnL .i64 3 w B (MK.getD i mk0).wv (W.getD i [])
  dd : ∀ i j, i < j → j < W.length → ∀ b, (MK.getD i mk0).wv.ownBlock = some b → (MK.getD j mk0).wv.ownBlock ≠ some b
section
variable {m : Mc} {n B : Nat} {w w' : World} {vb gl cnt : Nat} {ls : Nat → Nat} {vk : Value} {MK MK' : List Mrk} {M : List (List Int × Nat × Nat)} {f : Nat → Nat → Option (List Int)}
theorem mk_gd {L : List Mrk} {i : Nat} (h : i < L.length) : L.getD i mk0 = L[i] := by simp [List.getD, h]
theorem siv_pr {D : List Int → Prop} (h : Siv m n D ls M) {i j : Nat} (hij : i < j) (hj : j < M.length) : ¬ ((M.getD i ([], 0, 0)).2.1 = (M.getD j ([], 0, 0)).2.1 ∧ (M.getD i ([], 0, 0)).2.2 = (M.getD j ([], 0, 0)).2.2) := fun ⟨e1, e2⟩ => by
  have i1 := (h.mks i (by omega)).2.isf
  have i2 := (h.mks j hj).2.isf
  have h3 := h.srt i j hij hj
  rw [e1, e2] at i1
  rw [IsF.one i1 i2] at h3
  exact Ahd.irrefl _ h3
open Classical in
theorem sorted_words (so : SvO m n B w vb gl cnt ls vk MK M) (sv : Siv m n (fun _ => True) ls M) (hp : MK'.Perm MK) (hs : MK'.Pairwise (fun a b => ¬ PltM b a)) (bx : Bx (fun j => vk.ownBlock = some j) w w') (hn : m.n = (n : Int)) (hf : PrF m f) :
    PkI w' B MK' (prAll f n n) := by
  have hlen := so.len
  have dp : MK.Pairwise (fun a b => ¬ (a.s = b.s ∧ a.t = b.t)) := by
    rw [List.pairwise_iff_getElem]
    intro i j hi hj hij ⟨e1, e2⟩
    have p1 := so.pr i (by omega)
    have p2 := so.pr j (by omega)
    rw [mk_gd hi] at p1
    rw [mk_gd hj] at p2
    exact siv_pr sv hij (by omega) ⟨by rw [← p1.1, ← p2.1, e1], by rw [← p1.2, ← p2.2, e2]⟩
  have nd : MK.Nodup := dp.imp fun h e => h (by rw [e]; exact ⟨rfl, rfl⟩)
  have dd : MK.Pairwise (fun a b => ∀ x, a.wv.ownBlock = some x → b.wv.ownBlock ≠ some x) := by
    rw [List.pairwise_iff_getElem]
    intro i j hi hj hij
    have := so.d5 i j hij (by omega)
    rw [mk_gd hi, mk_gd hj] at this
    exact this
  have dp' : MK'.Pairwise (fun a b => ¬ (a.s = b.s ∧ a.t = b.t)) := (hp.pairwise_iff fun h e => h ⟨e.1.symm, e.2.symm⟩).2 dp
  have dd' : MK'.Pairwise (fun a b => ∀ x, a.wv.ownBlock = some x → b.wv.ownBlock ≠ some x) := (hp.pairwise_iff fun h x e1 e2 => h x e2 e1).2 dd
  obtain ⟨F, hF⟩ : ∃ F : Mrk → List Int × Nat × Nat, F = fun k => M.getD (MK.idxOf k) ([], 0, 0) := ⟨_, rfl⟩
  have hat : ∀ k ∈ MK, ∃ i, i < M.length ∧ MK.getD i mk0 = k ∧ F k = M.getD i ([], 0, 0) := fun k hk => by
    have hi := List.idxOf_lt_length_of_mem hk
    refine ⟨MK.idxOf k, by omega, ?_, by rw [hF]⟩
    rw [mk_gd hi]; exact List.getElem_idxOf hi
  have hMM : MK.map F = M := by
    refine List.ext_getElem (by simp [hlen]) fun i h1 h2 => ?_
    have hi : i < MK.length := by simpa using h1
    have hFx : ∀ k, F k = M.getD (MK.idxOf k) ([], 0, 0) := fun k => by rw [hF]
    rw [List.getElem_map, hFx, nd.idxOf_getElem i hi]
    simp [List.getD, h2]
  have hL : (MK'.map F).Perm M := by rw [← hMM]; exact hp.map F
  have hpr : ∀ k ∈ MK, (F k).2.1 = k.s ∧ (F k).2.2 = k.t := fun k hk => by
    obtain ⟨i, hi, e1, e2⟩ := hat k hk
    have := so.pr i hi
    rw [e1] at this
    rw [e2]; exact ⟨this.1.symm, this.2.symm⟩
  have hW : (MK'.map F).map (·.1) = prAll f n n := by
    refine pr_words hn hf (fun k hk => ?_) (fun u s t h1 h2 h3 => ?_) ?_
    · obtain ⟨i, hi, e⟩ := List.getElem_of_mem (hL.mem_iff.1 hk)
      have := (sv.mks i hi).2
      rw [show M.getD i ([], 0, 0) = M[i] by simp [List.getD, hi], e] at this
      exact this
    · obtain ⟨i, hi, e⟩ := sv.cp u s t h1 h2 trivial h3
      refine ⟨M.getD i ([], 0, 0), hL.mem_iff.2 ?_, e⟩
      rw [show M.getD i ([], 0, 0) = M[i] by simp [List.getD, hi]]
      exact List.getElem_mem hi
    · rw [List.pairwise_map]
      refine List.Pairwise.imp_of_mem (fun {a b} ha hb h => ?_) (hs.and dp')
      have pa := hpr a (hp.mem_iff.1 ha)
      have pb := hpr b (hp.mem_iff.1 hb)
      have h1 := h.1
      have h2 := h.2
      unfold PltM at h1
      unfold PrL
      omega
  rw [← hW]
  have hl : ((MK'.map F).map (·.1)).length = MK'.length := by simp
  have gW : ∀ i (hi : i < MK'.length), ((MK'.map F).map (·.1)).getD i [] = (F MK'[i]).1 := fun i hi => by simp [List.getD, hi]
  refine ⟨hl, fun i hi => ?_, fun i j hij hj => ?_⟩
  · rw [hl] at hi
    rw [gW i hi, mk_gd hi]
    obtain ⟨q, hq, e1, e2⟩ := hat MK'[i] (hp.mem_iff.1 (List.getElem_mem hi))
    have h1 := so.wd q hq
    have h2 := so.d3 q hq
    rw [e1] at h1 h2
    unfold wdA at h1
    rw [← e2] at h1
    exact ⟨h1.1, h1.2.keep fun b e => bx.block b (h1.2.lt e).2 (h2 b e).2.2⟩
  · rw [hl] at hj
    rw [mk_gd (by omega), mk_gd hj]
    exact List.pairwise_iff_getElem.1 dd' i j (by omega) hj hij
end
end Go.Proofs.Ytknefgdcnacfoaa
