/-
  A row of Booleans of the call's own: which numbers are in a list; and what holds on the way of the reference's Reach.
-/
import Derived.Test.YtdlcbjbcehpooaaTRc
import Derived.Test.YtdlcbjbcehpooaaJoinL
namespace Go.Proofs.Ytdlcbjbcehpooaa
open Go.RowKit

theorem infoBool : (Try.prog.info? 4).map (fun i => (i.zero, i.size, i.bytes)) = some (some (.bool false), 1, 1) := by kernel_rfl
/-- Of 0 to n - 1, which are in S. -/
def cellsK (S : List Int) (n : Nat) : List Value := (List.range n).map fun i : Nat => .bool (decide ((i : Int) ∈ S))
theorem length_cellsK (S : List Int) (n : Nat) : (cellsK S n).length = n := by simp [cellsK]
theorem cellsK_get {S : List Int} {n i : Nat} (h : i < n) : (cellsK S n)[i]? = some (.bool (decide ((i : Int) ∈ S))) := by simp [cellsK, h]
def Kn (w : World) (B : Nat) (v : Value) (n : Nat) (S : List Int) : Prop := w.ownsRow B 4 1 v n (cellsK S n)
theorem Kn.keep {w w' : World} {B n : Nat} {v : Value} {S : List Int} (h : Kn w B v n S) (k : ∀ b, v.ownBlock = some b → w'.heap[b]? = w.heap[b]?) : Kn w' B v n S := ownsRow_keep h k
theorem Kn.lt {w : World} {B n : Nat} {v : Value} {S : List Int} (h : Kn w B v n S) {b : Nat} (e : v.ownBlock = some b) : B ≤ b ∧ b < w.heap.size := World.ownsRow.lt h b e
theorem Kn.pos {w : World} {B n : Nat} {v : Value} {S : List Int} (h : Kn w B v n S) (hn : 0 < n) :
    ∃ g cap, v = .slice (some ⟨g, 0, none⟩) n cap ∧ n ≤ cap ∧ cap ≤ maxLen ∧ B ≤ g ∧ g < w.heap.size ∧ (∀ i, i < n → w.cell? ⟨g, i, none⟩ = some (.bool (decide ((i : Int) ∈ S)))) ∧ (∀ i, w.frozen? ⟨g, i, none⟩ = false) := by
  have hlt := World.ownsRow.lt h
  obtain ⟨h1, h2⟩ := id h
  rcases h2 with ⟨rfl, rfl⟩ | ⟨g, cap, cur, rfl, hg, hcell, hnc, hm, hs, ht⟩
  · omega
  · refine ⟨g, cap, rfl, hnc, hm, hg, (hlt g rfl).2, fun i hi => ?_, fun i => World.ownsRow.frozenAt h i⟩
    have := World.ownsRow.cellAt h i (by omega)
    rw [cellsK_get hi] at this
    exact this
theorem Kn.store {w : World} {B g n cap : Nat} {S : List Int} (h : Kn w B (.slice (some ⟨g, 0, none⟩) n cap) n S) (t : Nat) :
    Kn (w.setCell ⟨g, t, none⟩ (.bool true)) B (.slice (some ⟨g, 0, none⟩) n cap) n (S ++ [(t : Int)]) := by
  have h1 := World.ownsRow.stored h t (.bool true)
  unfold Kn
  have e : (cellsK S n).set t (.bool true) = cellsK (S ++ [(t : Int)]) n := by
    refine List.ext_getElem? fun i => ?_
    by_cases hi : i < n
    · rw [cellsK_get hi, List.getElem?_set]
      by_cases e : t = i
      · subst e; simp [length_cellsK, hi]
      · rw [if_neg e, cellsK_get hi]
        have : ((i : Int) ∈ S ++ [(t : Int)]) ↔ (i : Int) ∈ S := by simp; omega
        simp only [this]
    · rw [List.getElem?_eq_none (by rw [List.length_set, length_cellsK]; omega), List.getElem?_eq_none (by rw [length_cellsK]; omega)]
  rw [← e]
  exact h1.1
section
variable {w : World} {ops : Array Oper} {rest : List Oper} {o : Oper} {a : Act} {Q : Exit → Act → World → Prop}
/-- make([]bool, n). -/
theorem wplK_make (hgd : o.guard = none) (l c : Operand) (ho : o.op = Op.makeSlice 63 l c) (B : Nat) (L C : Int) (n : Nat)
    (hl : a.eval l = .int .i64 L) (hc : a.eval c = .int .i64 C) (hL : L = (n : Int)) (hC : C = (n : Int)) (hbytes : n ≤ 140737488355328) (hbase : B ≤ w.heap.size)
    (h : ∀ w', Kn w' B (.slice (some ⟨w.heap.size, 0, none⟩) n n) n [] → Below B w w' → w.grownBy w' none → wpList Try.prog ops Q rest (a.put o.dst (.slice (some ⟨w.heap.size, 0, none⟩) n n)) w') :
    wpList Try.prog ops Q (o :: rest) a w := by
  obtain ⟨i, hi, hz0, hz1, hz2⟩ := info_parts infoBool
  refine wpList_make_full w hgd l c 63 ho B 4 i (.bool false) 1 Try.underlying63 hi hz0 hz1 .i64 .i64 L C n hl hc hL hC (by rw [hz2]; omega) (by unfold maxLen; omega) hbase ?_
  intro w' h1 h2
  refine h w' ?_ ((Below.refl B w).grown h2 hbase fun k hk => by cases hk) h2
  unfold Kn
  have e : (madeCells (Value.bool false).cells (n * 1)).toList = cellsK [] n := by
    show (madeCells #[.bool false] (n * 1)).toList = _
    rw [toList_madeCells_one, Nat.mul_one]
    refine List.ext_getElem? fun i => ?_
    by_cases hi : i < n
    · rw [cellsK_get hi, List.getElem?_replicate, if_pos hi]; simp
    · rw [List.getElem?_eq_none (by simp; omega), List.getElem?_eq_none (by rw [length_cellsK]; omega)]
  rw [← e]; exact h1
end

theorem rinv_len {m : Mc} {i x : Nat} {S : List Int} {V : List (List Int)} (h : RInv m i x S V) : ∀ p, p < S.length → (V.getD p []).length ≤ p
  | 0, _ => by rw [h.v0]; simp
  | p + 1, hp => by
    obtain ⟨j, y, hj, _, _, e⟩ := h.par (p + 1) (by omega) hp
    rw [e, List.length_append, List.length_singleton]
    have := rinv_len h j (by omega)
    omega
  termination_by p => p
/-- What holds on the way. -/
structure KInv (m : Mc) (w w1 wr : World) (vk vs vw : Value) (us : Nat → Value) (i x : Nat) (S : List Int) (V : List (List Int)) : Prop where
  kn : Kn wr w1.heap.size vk m.n.toNat S
  st : OwnL .i64 3 wr w1.heap.size vs S
  wd : LLs wr w1.heap.size vw us V
  ks : ∀ b, vk.ownBlock = some b → vs.ownBlock ≠ some b ∧ vw.ownBlock ≠ some b ∧ ∀ j, j < V.length → (us j).ownBlock ≠ some b
  sw : ∀ b, vs.ownBlock = some b → vw.ownBlock ≠ some b ∧ ∀ j, j < V.length → (us j).ownBlock ≠ some b
  inv : RInv m i x S V
  fuel : Fuel m i x S V
  b1 : Below w.heap.size w wr
  d1 : Below w1.heap.size w1 wr
  ww : w.heap.size ≤ w1.heap.size

theorem LLs.rdx {w : World} {B : Nat} {v : Value} {vs : Nat → Value} {V : List (List Int)} (h : LLs w B v vs V) : ∃ a c, v = .slice a V.length c ∧ RdV w a V.length vs := by
  obtain ⟨a, c, e, _, _, r⟩ := h.out.shape
  exact ⟨a, c, e, r⟩
theorem LLs.draws {w : World} {B : Nat} {v : Value} {vs : Nat → Value} {V : List (List Int)} (h : LLs w B v vs V) (q : Nat) : LLs (w.drewN q) B v vs V := ⟨h.out, h.fam.keep fun _ _ _ _ => rfl, h.ap⟩
theorem KInv.old {m : Mc} {w w1 wr : World} {vk vs vw : Value} {us : Nat → Value} {i x : Nat} {S : List Int} {V : List (List Int)} (R : Right m) (h : KInv m w w1 wr vk vs vw us i x S V) (hi : i < S.length) (hx : (x : Int) < m.k) (ht : nxt m (S.getD i 0) x ∈ S) (q : Nat) :
    KInv m w w1 (wr.drewN q) vk vs vw us i (x + 1) S V :=
  ⟨h.kn, h.st, h.wd.draws q, h.ks, h.sw, h.inv.old hi hx ht, h.fuel.old (h.inv.size R) hi hx ht, below_drewN h.b1 q, below_drewN h.d1 q, h.ww⟩
theorem KInv.row {m : Mc} {w w1 wr : World} {vk vs vw : Value} {us : Nat → Value} {i x : Nat} {S : List Int} {V : List (List Int)} (R : Right m) (h : KInv m w w1 wr vk vs vw us i x S V) (hi : i < S.length) (hx : (x : Int) = m.k) :
    KInv m w w1 wr vk vs vw us (i + 1) 0 S V :=
  ⟨h.kn, h.st, h.wd, h.ks, h.sw, h.inv.row hi (by omega) R.k0, h.fuel.row (h.inv.size R) hi hx, h.b1, h.d1, h.ww⟩

/-- A new state: known is written (wa), the state goes behind the states (wc), its word is made (we), and goes behind the words (wg). -/
theorem KInv.new {m : Mc} {w w1 wr : World} {vk vs vw : Value} {us : Nat → Value} {i x : Nat} {S : List Int} {V : List (List Int)} (R : Right m) (h : KInv m w w1 wr vk vs vw us i x S V) (hi : i < S.length) (hx : (x : Int) < m.k) {t : Nat} (et : nxt m (S.getD i 0) x = (t : Int)) (ht : ¬ (t : Int) ∈ S)
    {q gk ck : Nat} (ek : vk = .slice (some ⟨gk, 0, none⟩) m.n.toNat ck) {o1 : Obj} {wc : World} {vs' : Value} (hs : OwnL .i64 3 wc w1.heap.size vs' (S ++ [(t : Int)])) (hgs : (((wr.drewN q).setCell ⟨gk, t, none⟩ (.bool true)).alloc o1).grownBy wc vs.ownBlock) (hbs : Below w1.heap.size (((wr.drewN q).setCell ⟨gk, t, none⟩ (.bool true)).alloc o1) wc) (has : ∀ j, vs'.ownBlock = some j → vs.ownBlock = some j ∨ j = (((wr.drewN q).setCell ⟨gk, t, none⟩ (.bool true)).alloc o1).heap.size)
    {o2 : Obj} {we : World} {u : Value} (hu : OwnL .i64 3 we (wc.alloc o2).heap.size u (V.getD i [] ++ [(x : Int)])) (hbu : Below (wc.alloc o2).heap.size (wc.alloc o2) we)
    {o3 : Obj} {wg : World} {vw' : Value} (hw : OwnV wg w1.heap.size vw' (V.length + 1) (joinV V.length us fun _ => u)) (hgw : (we.alloc o3).grownBy wg vw.ownBlock) (haw : ∀ b, vw'.ownBlock = some b → vw.ownBlock = some b ∨ (we.alloc o3).heap.size ≤ b) :
    KInv m w w1 wg vk vs' vw' (joinV V.length us fun _ => u) i (x + 1) (S ++ [(t : Int)]) (V ++ [V.getD i [] ++ [(x : Int)]]) := by
  have zg : gk < wr.heap.size ∧ w1.heap.size ≤ gk := by have := h.kn.lt (b := gk) (by rw [ek]; rfl); omega
  have hvk : vk.ownBlock = some gk := by rw [ek]; rfl
  have zs : ∀ b, vs.ownBlock = some b → b < wr.heap.size := fun b e => (h.st.lt e).2
  have zw : ∀ b, vw.ownBlock = some b → b < wr.heap.size := fun b e => (h.wd.out.lt e).2
  have zu : ∀ j, j < V.length → ∀ b, (us j).ownBlock = some b → b < wr.heap.size := fun j hj b e => ((h.wd.fam.own j hj).lt e).2
  have z1 : wr.heap.size + 1 ≤ wc.heap.size := by have := hgs.size; simp at this; exact this
  have z2 : (wc.alloc o2).heap.size = wc.heap.size + 1 := by simp
  have z3 := hbu.size
  have z4 : we.heap.size + 1 ≤ wg.heap.size := by have := hgw.size; simp at this; exact this
  rw [z2] at z3 hu
  have zo : (((wr.drewN q).setCell ⟨gk, t, none⟩ (.bool true)).alloc o1).heap.size = wr.heap.size + 1 := by simp
  rw [zo] at has
  have zo3 : (we.alloc o3).heap.size = we.heap.size + 1 := by simp
  rw [zo3] at haw
  -- from the world where known is written on
  have A1 : ∀ j, j < wr.heap.size → vs.ownBlock ≠ some j → wc.heap[j]? = ((wr.drewN q).setCell ⟨gk, t, none⟩ (.bool true)).heap[j]? := fun j hj hne => by
    rw [hgs.block j (by rw [zo]; omega) (fun e => hne e.symm), Below.heap_alloc _ _ _ (by simp; omega)]
  have A2 : ∀ j, j < wc.heap.size → we.heap[j]? = wc.heap[j]? := fun j hj => by
    rw [hbu.block j (by rw [z2]; omega), Below.heap_alloc _ _ _ hj]
  have A3 : ∀ j, j < we.heap.size → vw.ownBlock ≠ some j → wg.heap[j]? = we.heap[j]? := fun j hj hne => by
    rw [hgw.block j (by rw [zo3]; omega) (fun e => hne e.symm), Below.heap_alloc _ _ _ hj]
  have A : ∀ j, j < wr.heap.size → vs.ownBlock ≠ some j → vw.ownBlock ≠ some j → wg.heap[j]? = ((wr.drewN q).setCell ⟨gk, t, none⟩ (.bool true)).heap[j]? := fun j hj h1 h2 => by
    rw [A3 j (by omega) h2, A2 j (by omega), A1 j hj h1]
  have K : ∀ j, j < wr.heap.size → j ≠ gk → vs.ownBlock ≠ some j → vw.ownBlock ≠ some j → wg.heap[j]? = wr.heap[j]? := fun j hj h0 h1 h2 => by
    rw [A j hj h1 h2, Below.heap_setCell _ _ _ _ (by simpa using h0)]; rfl
  have ks := h.ks gk hvk
  have hk2 : Kn wg w1.heap.size vk m.n.toNat (S ++ [(t : Int)]) := by
    have h2 : Kn (wr.drewN q) w1.heap.size (.slice (some ⟨gk, 0, none⟩) m.n.toNat ck) m.n.toNat S := ek ▸ h.kn
    have h3 := h2.store t
    rw [ek]
    refine h3.keep fun b e => ?_
    have : b = gk := by cases e; rfl
    subst this
    exact A b zg.1 ks.1 ks.2.1
  have hs' : ∀ b, vs'.ownBlock = some b → b < wc.heap.size := fun b e => (hs.lt e).2
  have hsw : ∀ b, vs'.ownBlock = some b → vw.ownBlock ≠ some b := fun b e e2 => by
    rcases has b e with e3 | e3
    · exact (h.sw b e3).1 e2
    · have := zw b e2; omega
  have hs2 : OwnL .i64 3 wg w1.heap.size vs' (S ++ [(t : Int)]) := hs.keep fun b e => by
    rw [A3 b (by have := hs' b e; omega) (hsw b e), A2 b (hs' b e)]
  have hu' : ∀ b, u.ownBlock = some b → wc.heap.size + 1 ≤ b ∧ b < we.heap.size := fun b e => by have := hu.lt e; omega
  have hu2 : OwnL .i64 3 wg (wc.heap.size + 1) u (V.getD i [] ++ [(x : Int)]) := hu.keep fun b e => A3 b (hu' b e).2 fun e2 => by have := zw b e2; have := hu' b e; omega
  have hd : Below w1.heap.size wr wg := by
    have e1 : Below w1.heap.size wr ((wr.drewN q).setCell ⟨gk, t, none⟩ (.bool true)) := (below_drewN (Below.refl _ wr) q).setCell (p := ⟨gk, t, none⟩) zg.2 _
    have e2 := (e1.alloc (by have := h.d1.size; simp; omega) o1).trans hbs
    have e3 := (e2.alloc (by have := h.d1.size; omega) o2).trans (hbu.mono (by rw [z2]; have := h.d1.size; omega))
    have e4 := e3.alloc (by have := h.d1.size; omega) o3
    exact e4.grown hgw (by rw [zo3]; have := h.d1.size; omega) fun k e => (h.wd.out.lt e).1
  have hlen := h.inv.len
  have hL : (V ++ [V.getD i [] ++ [(x : Int)]]).length = V.length + 1 := by simp
  have gV : ∀ j, j < V.length → (V ++ [V.getD i [] ++ [(x : Int)]]).getD j [] = V.getD j [] := fun j hj => gd_left [] hj
  have gE : (V ++ [V.getD i [] ++ [(x : Int)]]).getD V.length [] = V.getD i [] ++ [(x : Int)] := gd_mid _ _ _
  have jl : ∀ j, j < V.length → joinV V.length us (fun _ => u) j = us j := fun j hj => joinV_lt hj
  have je : joinV V.length us (fun _ => u) V.length = u := joinV_ge (Nat.le_refl _)
  have hz := h.d1.size
  have F2 : LLs wg w1.heap.size vw' (joinV V.length us fun _ => u) (V ++ [V.getD i [] ++ [(x : Int)]]) := by
    refine ⟨by rw [hL]; exact hw, ⟨fun j hj => ?_, fun j k hj hk hne b e e2 => ?_⟩, fun b e j hj e2 => ?_⟩
    · rw [hL] at hj
      by_cases c : j = V.length
      · subst c
        rw [je]
        unfold nsV
        have h9 := own_of_list (hu2.mono (B' := w1.heap.size) (by omega))
        have e5 : fsV (V ++ [V.getD i [] ++ [(x : Int)]]) V.length = fun j => (V.getD i [] ++ [(x : Int)]).getD j 0 := by
          funext j; unfold fsV; rw [gE]
        rw [gE, e5]
        exact h9
      · have hj' : j < V.length := by omega
        rw [jl j hj']
        have h9 := (h.wd.fam.own j hj').keep (w' := wg) fun b e => K b (zu j hj' b e) (fun e2 => (h.ks gk hvk).2.2 j hj' (e2 ▸ e)) (fun e2 => (h.sw b e2).2 j hj' e) (fun e2 => h.wd.ap b e2 j hj' e)
        have e5 : nsV (V ++ [V.getD i [] ++ [(x : Int)]]) j = nsV V j := by unfold nsV; rw [gV j hj']
        have e6 : fsV (V ++ [V.getD i [] ++ [(x : Int)]]) j = fsV V j := by funext y; unfold fsV; rw [gV j hj']
        rw [e5, e6]; exact h9
    · rw [hL] at hj hk
      by_cases c : j = V.length
      · subst c
        rw [je] at e
        rw [jl k (by omega)] at e2
        have := hu' b e
        have := zu k (by omega) b e2
        omega
      · rw [jl j (by omega)] at e
        by_cases c2 : k = V.length
        · subst c2
          rw [je] at e2
          have := hu' b e2
          have := zu j (by omega) b e
          omega
        · rw [jl k (by omega)] at e2
          exact h.wd.fam.apart j k (by omega) (by omega) hne b e e2
    · rw [hL] at hj
      by_cases c : j = V.length
      · subst c
        rw [je] at e2
        have := hu' b e2
        rcases haw b e with e3 | e3
        · have := zw b e3; omega
        · omega
      · rw [jl j (by omega)] at e2
        have := zu j (by omega) b e2
        rcases haw b e with e3 | e3
        · exact h.wd.ap b e3 j (by omega) e2
        · omega
  have hI : RInv m i (x + 1) (S ++ [(t : Int)]) (V ++ [V.getD i [] ++ [(x : Int)]]) := by
    have := h.inv.new R hi hx (by rw [et]; exact ht)
    rwa [et] at this
  have hF : Fuel m i (x + 1) (S ++ [(t : Int)]) (V ++ [V.getD i [] ++ [(x : Int)]]) := by
    have := h.fuel.new (h.inv.size R) hi hx (by rw [et]; exact ht)
    rwa [et] at this
  refine ⟨hk2, hs2, F2, fun b e => ⟨fun e2 => ?_, fun e2 => ?_, fun j hj e2 => ?_⟩, fun b e => ⟨fun e2 => ?_, fun j hj e2 => ?_⟩, hI, hF, h.b1.trans (hd.mono h.ww), h.d1.trans hd, h.ww⟩
  · have hb : b = gk := by rw [hvk] at e; cases e; rfl
    rcases has b e2 with e3 | e3
    · exact (h.ks b e).1 e3
    · omega
  · have hb : b = gk := by rw [hvk] at e; cases e; rfl
    rcases haw b e2 with e3 | e3
    · exact (h.ks b e).2.1 e3
    · omega
  · have hb : b = gk := by rw [hvk] at e; cases e; rfl
    rw [hL] at hj
    by_cases c : j = V.length
    · subst c
      rw [je] at e2
      have := hu' b e2; omega
    · rw [jl j (by omega)] at e2
      exact (h.ks b e).2.2 j (by omega) e2
  · rcases haw b e2 with e3 | e3
    · exact hsw b e e3
    · have := hs' b e; omega
  · rw [hL] at hj
    by_cases c : j = V.length
    · subst c
      rw [je] at e2
      have := hu' b e2
      have := hs' b e; omega
    · rw [jl j (by omega)] at e2
      have := zu j (by omega) b e2
      rcases has b e with e3 | e3
      · exact (h.sw b e3).2 j (by omega) e2
      · omega

end Go.Proofs.Ytdlcbjbcehpooaa
