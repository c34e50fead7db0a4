/-
  The sieve in memory: its least states, how many, its marks.
-/
import Derived.Test.YtknefgdcnacfoaaDPart
import Derived.Test.YtknefgdcnacfoaaDBeh
import Derived.Test.YtknefgdcnacfoaaGPush
import Derived.Test.YtknefgdcnacfoaaUSivL
import Derived.Test.YtknefgdcnacfoaaK19
namespace Go.Proofs.Ytknefgdcnacfoaa
open Go.RowKit Go.Maps

/-- A mark as it lies: the word's slice, the slice of what is said, the pair. -/
structure Mrk where
  wa : Option Addr
  wn : Nat
  wc : Nat
  sa : Option Addr
  sn : Nat
  sc : Nat
  s : Nat
  t : Nat
def mk0 : Mrk := ⟨none, 0, 0, none, 0, 0, 0, 0⟩
def Mrk.wv (k : Mrk) : Value := .slice k.wa k.wn k.wc
def mkl (k : Mrk) : List Value := [.slice k.wa k.wn k.wc, .slice k.sa k.sn k.sc, .int .i64 (k.s : Int), .int .i64 (k.t : Int)]
theorem mkl_len (k : Mrk) : (mkl k).length = 4 := rfl
theorem eMark : EltG 72 68 (.agg #[.slice none 0 0, .slice none 0 0, .int .i64 0, .int .i64 0]) 4 64 mkl := ⟨Try.underlying68, by kernel_rfl, rfl, by decide, mkl_len, fun x u hu => by
  simp [mkl] at hu
  rcases hu with rfl | rfl | rfl | rfl <;> rfl⟩
theorem out_fit {m : Mc} (R : Right m) (o1 : m.o ≤ 64) (i : Nat) : 0 ≤ m.out.getD i 0 ∧ m.out.getD i 0 ≤ 64 := by
  by_cases h : i < m.out.length
  · have := R.so i h; omega
  · rw [List.getD_eq_getElem?_getD, List.getElem?_eq_none (by omega)]; simp
theorem lst_fit {m : Mc} (R : Right m) (o1 : m.o ≤ 64) : ∀ (w : List Int) (s : Int), 0 ≤ lst m w s ∧ lst m w s ≤ 64
  | [], s => out_fit R o1 _
  | [x], s => by
    show 0 ≤ sdB m s x ∧ sdB m s x ≤ 64
    unfold sdB
    split <;> exact out_fit R o1 _
  | x :: y :: w, s => lst_fit R o1 (y :: w) (nxt m s x)

structure SvO (m : Mc) (n B : Nat) (w : World) (vb gl cnt : Nat) (ls : Nat → Nat) (vk : Value) (MK : List Mrk) (M : List (List Int × Nat × Nat)) : Prop where
  o : w.heap[vb]? = some (svC gl n cnt vk)
  lo : OwT w B gl n n ls
  mo : OwnG 72 4 mkl w B vk MK
  len : MK.length = M.length
  wd : ∀ i, i < M.length → (MK.getD i mk0).wn = (wdA M i).length ∧ OwnL .i64 3 w B (MK.getD i mk0).wv (wdA M i)
  sd : ∀ i, i < M.length → (MK.getD i mk0).sn = n ∧ RdL .i64 w (MK.getD i mk0).sa (sdL m n (wdA M i))
  pr : ∀ i, i < M.length → (MK.getD i mk0).s = (M.getD i ([], 0, 0)).2.1 ∧ (MK.getD i mk0).t = (M.getD i ([], 0, 0)).2.2
  bv : B ≤ vb
  d1 : vb ≠ gl
  d2 : ∀ b, vk.ownBlock = some b → b ≠ vb ∧ b ≠ gl
  d3 : ∀ i, i < M.length → ∀ b, (MK.getD i mk0).wv.ownBlock = some b → b ≠ vb ∧ b ≠ gl ∧ vk.ownBlock ≠ some b
  d4 : ∀ i, i < M.length → ∀ x, (MK.getD i mk0).sa = some x → x.block ≠ vb ∧ x.block ≠ gl ∧ vk.ownBlock ≠ some x.block
  d5 : ∀ i j, i < j → j < M.length → ∀ b, (MK.getD i mk0).wv.ownBlock = some b → (MK.getD j mk0).wv.ownBlock ≠ some b
  ct : cnt = n → ∀ t, t < n → ls t = t
  cn : cnt ≤ 1048576
section
variable {m : Mc} {n B : Nat} {w w' : World} {vb gl cnt : Nat} {ls : Nat → Nat} {vk : Value} {MK : List Mrk} {M : List (List Int × Nat × Nat)}
theorem SvO.vlt (h : SvO m n B w vb gl cnt ls vk MK M) : vb < w.heap.size := (Array.getElem?_eq_some_iff.1 h.o).1
theorem SvO.on (h : SvO m n B w vb gl cnt ls vk MK M) (hb : Below w.heap.size w w') : SvO m n B w' vb gl cnt ls vk MK M :=
  ⟨(hb.block _ h.vlt).trans h.o, h.lo.below hb, h.mo.below hb, h.len, fun i hi => ⟨(h.wd i hi).1, (h.wd i hi).2.grown hb⟩, fun i hi => ⟨(h.sd i hi).1, (h.sd i hi).2.below hb⟩, h.pr, h.bv, h.d1, h.d2, h.d3, h.d4, h.d5, h.ct, h.cn⟩
/-- One mark more: the world w has become w' but for the object, the least states, the row of marks. -/
theorem SvO.push (h : SvO m n B w vb gl cnt ls vk MK M) {cnt' : Nat} {ls' : Nat → Nat} {vk' : Value} {k : Mrk} {wd : List Int} {s t : Nat}
    (bx : Bx (fun j => j = vb ∨ j = gl ∨ vk.ownBlock = some j) w w') (o : w'.heap[vb]? = some (svC gl n cnt' vk')) (lo : OwT w' B gl n n ls') (mo : OwnG 72 4 mkl w' B vk' (MK ++ [k]))
    (hat : ∀ b, vk'.ownBlock = some b → vk.ownBlock = some b ∨ w.heap.size ≤ b) (kw : k.wn = wd.length ∧ OwnL .i64 3 w' w.heap.size k.wv wd) (ks : k.sn = n ∧ RdL .i64 w' k.sa (sdL m n wd)) (kp : k.s = s ∧ k.t = t)
    (ka : ∀ b, k.wv.ownBlock = some b → vk'.ownBlock ≠ some b) (kd : ∀ x, k.sa = some x → x.block ≠ vb ∧ x.block ≠ gl ∧ vk'.ownBlock ≠ some x.block)
    (hnew : ∀ b, vk'.ownBlock = some b → (vk.ownBlock = some b ∨ ∀ j, j < w.heap.size → j ≠ b)) (ct : cnt' = n → ∀ t, t < n → ls' t = t) (cn : cnt' ≤ 1048576) (hB : B ≤ w.heap.size) (hn1 : 1 ≤ n) : SvO m n B w' vb gl cnt' ls' vk' (MK ++ [k]) (M ++ [(wd, s, t)]) := by
  have hlen := h.len
  have L : (M ++ [(wd, s, t)]).length = M.length + 1 := by simp
  have gK : ∀ i, i < M.length → (MK ++ [k]).getD i mk0 = MK.getD i mk0 := fun i hi => gd_left _ (by omega)
  have eK : (MK ++ [k]).getD M.length mk0 = k := by rw [← hlen]; exact gd_mid _ _ _
  have gM : ∀ i, i < M.length → (M ++ [(wd, s, t)]).getD i ([], 0, 0) = M.getD i ([], 0, 0) := fun i hi => gd_left _ hi
  have eM : (M ++ [(wd, s, t)]).getD M.length ([], 0, 0) = (wd, s, t) := gd_mid _ _ _
  have eW : wdA (M ++ [(wd, s, t)]) M.length = wd := by unfold wdA; rw [eM]
  have cs : ∀ i, i < M.length + 1 → i < M.length ∨ i = M.length := fun i hi => by omega
  have hvl := h.vlt
  have hgl := h.lo.lt.2
  refine ⟨o, lo, mo, by simp [hlen], fun i hi => ?_, fun i hi => ?_, fun i hi => ?_, h.bv, h.d1, fun b e => ?_, fun i hi b e => ?_, fun i hi x e => ?_, fun i j hij hj b e => ?_, ct, cn⟩
  · rw [L] at hi
    rcases cs i hi with c | rfl
    · rw [gK i c, wdA_left c]
      refine ⟨(h.wd i c).1, (h.wd i c).2.keep fun b e => bx.block b ((h.wd i c).2.lt e).2 ?_⟩
      have := h.d3 i c b e
      rintro (x | x | x)
      · exact this.1 x
      · exact this.2.1 x
      · exact this.2.2 x
    · rw [eK, eW]; exact ⟨kw.1, kw.2.mono hB⟩
  · rw [L] at hi
    rcases cs i hi with c | rfl
    · rw [gK i c, wdA_left c]
      refine ⟨(h.sd i c).1, (h.sd i c).2.bx bx fun x e => ?_⟩
      have := h.d4 i c x e
      rintro (y | y | y)
      · exact this.1 y
      · exact this.2.1 y
      · exact this.2.2 y
    · rw [eK, eW]; exact ks
  · rw [L] at hi
    rcases cs i hi with c | rfl
    · rw [gK i c, gM i c]; exact h.pr i c
    · rw [eK, eM]; exact kp
  · rcases hat b e with c | c
    · exact h.d2 b c
    · exact ⟨by omega, by omega⟩
  · rw [L] at hi
    rcases cs i hi with c | rfl
    · rw [gK i c] at e
      have h3 := h.d3 i c b e
      refine ⟨h3.1, h3.2.1, fun x => ?_⟩
      rcases hnew b x with y | y
      · exact h3.2.2 y
      · exact y b ((h.wd i c).2.lt e).2 rfl
    · rw [eK] at e
      have h3 := (kw.2.lt e).1
      exact ⟨by omega, by omega, ka b e⟩
  · rw [L] at hi
    rcases cs i hi with c | rfl
    · rw [gK i c] at e
      have h3 := h.d4 i c x e
      refine ⟨h3.1, h3.2.1, fun y => ?_⟩
      rcases hnew x.block y with z | z
      · exact h3.2.2 z
      · have hsd := (h.sd i c).2
        obtain ⟨b2, off2, e2, hc2⟩ := hsd.at (i := 0) (by rw [sdL_len]; omega)
        rw [e] at e2
        cases e2
        exact z b2 (World.block_lt_of_cell? w _ (hc2 0 (by rw [sdL_len]; omega))) rfl
    · rw [eK] at e; exact kd x e
  · rw [L] at hj
    rcases cs j hj with c | rfl
    · rw [gK i (by omega)] at e
      rw [gK j c]
      exact h.d5 i j hij c b e
    · rw [gK i hij] at e
      rw [eK]
      intro x
      have h1 := ((h.wd i hij).2.lt e).2
      have h2 := (kw.2.lt x).1
      omega
end
end Go.Proofs.Ytknefgdcnacfoaa
