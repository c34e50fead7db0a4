/-
  Some texts of this seat, one behind the other.
-/
import Derived.Test.YtagoilabphmdfaaK1
import Derived.Test.YtagoilabphmdfaaK16
import Derived.Test.YtagoilabphmdfaaK2
import Derived.Test.YtagoilabphmdfaaK6
import Derived.Test.YtagoilabphmdfaaK7
/-
  Memory of a search: which numbers are known, a row of numbers, a row of words.
-/
namespace Go.Proofs.Ytagoilabphmdfaa
open Go.RowKit

structure SM (B : Nat) (w : World) (vk vs vw : Value) (us : Nat → Value) (M : Nat) (K C : List Int) (V : List (List Int)) : Prop where
  kn : Kn w B vk M K
  st : OwnL .i64 3 w B vs C
  wd : LLs w B vw us V
  ks : ∀ b, vk.ownBlock = some b → vs.ownBlock ≠ some b ∧ vw.ownBlock ≠ some b ∧ ∀ j, j < V.length → (us j).ownBlock ≠ some b
  sw : ∀ b, vs.ownBlock = some b → vw.ownBlock ≠ some b ∧ ∀ j, j < V.length → (us j).ownBlock ≠ some b

section
variable {B : Nat} {w w' : World} {vk vs vw : Value} {us : Nat → Value} {M : Nat} {K C : List Int} {V : List (List Int)}
/-- Its blocks. -/
def smX (vk vs vw : Value) (us : Nat → Value) (n : Nat) (b : Nat) : Prop := vk.ownBlock = some b ∨ vs.ownBlock = some b ∨ vw.ownBlock = some b ∨ ∃ j, j < n ∧ (us j).ownBlock = some b
theorem SM.lt (h : SM B w vk vs vw us M K C V) {b : Nat} (hb : smX vk vs vw us V.length b) : B ≤ b ∧ b < w.heap.size := by
  rcases hb with e | e | e | ⟨j, hj, e⟩
  · exact h.kn.lt e
  · exact h.st.lt e
  · exact h.wd.out.lt e
  · exact (h.wd.fam.own j hj).lt e
theorem SM.keep (h : SM B w vk vs vw us M K C V) (k : ∀ b, smX vk vs vw us V.length b → w'.heap[b]? = w.heap[b]?) : SM B w' vk vs vw us M K C V :=
  ⟨h.kn.keep fun b e => k b (.inl e), h.st.keep fun b e => k b (.inr (.inl e)), ⟨h.wd.out.keep fun b e => k b (.inr (.inr (.inl e))), h.wd.fam.keep fun j hj b e => k b (.inr (.inr (.inr ⟨j, hj, e⟩))), h.wd.ap⟩, h.ks, h.sw⟩
theorem SM.below (h : SM B w vk vs vw us M K C V) (hb : Below w.heap.size w w') : SM B w' vk vs vw us M K C V := h.keep fun b e => hb.block b (h.lt e).2
theorem SM.draws (h : SM B w vk vs vw us M K C V) (q : Nat) : SM B (w.drewN q) vk vs vw us M K C V := h.keep fun _ _ => rfl
theorem SM.know (h : SM B w vk vs vw us M K C V) {gk ck : Nat} (ek : vk = .slice (some ⟨gk, 0, none⟩) M ck) (t : Nat) : SM B (w.setCell ⟨gk, t, none⟩ (.bool true)) vk vs vw us M (K ++ [(t : Int)]) C V := by
  have hvk : vk.ownBlock = some gk := by rw [ek]; rfl
  have ks := h.ks gk hvk
  have H : ∀ b, b ≠ gk → (w.setCell ⟨gk, t, none⟩ (.bool true)).heap[b]? = w.heap[b]? := fun b hb => Below.heap_setCell _ _ _ _ (by simpa using hb)
  refine ⟨?_, h.st.keep fun b e => H b fun e2 => ks.1 (e2 ▸ e), ⟨h.wd.out.keep fun b e => H b fun e2 => ks.2.1 (e2 ▸ e), h.wd.fam.keep fun j hj b e => H b fun e2 => ks.2.2 j hj (e2 ▸ e), h.wd.ap⟩, h.ks, h.sw⟩
  have h2 : Kn w B (.slice (some ⟨gk, 0, none⟩) M ck) M K := ek ▸ h.kn
  rw [ek]
  exact h2.store t
theorem SM.word (h : SM B w vk vs vw us M K C V) {u : Value} {l : List Int} (hu : OwnL .i64 3 w B u l) (hx : ∀ b, u.ownBlock = some b → ¬ smX vk vs vw us V.length b) {wg : World} {o : Obj} {vw' : Value} (hw : OwnV wg B vw' (V.length + 1) (joinV V.length us fun _ => u)) (hg : (w.alloc o).grownBy wg vw.ownBlock) (ha : ∀ b, vw'.ownBlock = some b → vw.ownBlock = some b ∨ (w.alloc o).heap.size ≤ b) :
    SM B wg vk vs vw' (joinV V.length us fun _ => u) M K C (V ++ [l]) := by
  have zo : (w.alloc o).heap.size = w.heap.size + 1 := by simp
  rw [zo] at ha
  have A : ∀ j, j < w.heap.size → vw.ownBlock ≠ some j → wg.heap[j]? = w.heap[j]? := fun j hj hne => by
    rw [hg.block j (by rw [zo]; omega) (fun e => hne e.symm), Below.heap_alloc _ _ _ hj]
  have hL : (V ++ [l]).length = V.length + 1 := by simp
  have gV : ∀ j, j < V.length → (V ++ [l]).getD j [] = V.getD j [] := fun j hj => gd_left [] hj
  have gE : (V ++ [l]).getD V.length [] = l := gd_mid _ _ _
  have jl : ∀ j, j < V.length → joinV V.length us (fun _ => u) j = us j := fun j hj => joinV_lt hj
  have je : joinV V.length us (fun _ => u) V.length = u := joinV_ge (Nat.le_refl _)
  have zu : ∀ j, j < V.length → ∀ b, (us j).ownBlock = some b → b < w.heap.size := fun j hj b e => ((h.wd.fam.own j hj).lt e).2
  have nw : ∀ b, vw'.ownBlock = some b → ∀ c, c = b → c < w.heap.size → vw.ownBlock = some c := fun b e c e2 hc => by
    subst e2
    rcases ha c e with e3 | e3
    · exact e3
    · omega
  have F2 : LLs wg B vw' (joinV V.length us fun _ => u) (V ++ [l]) := by
    refine ⟨by rw [hL]; exact hw, ⟨fun j hj => ?_, fun j k hj hk hne b e e2 => ?_⟩, fun b e j hj e2 => ?_⟩
    · rw [hL] at hj
      by_cases c : j = V.length
      · subst c
        rw [je]
        unfold nsV
        have h9 := own_of_list (hu.keep (w' := wg) fun b e => A b (hu.lt e).2 fun e2 => hx b e (.inr (.inr (.inl e2))))
        have e5 : fsV (V ++ [l]) V.length = fun j => l.getD j 0 := by
          funext j; unfold fsV; rw [gE]
        rw [gE, e5]
        exact h9
      · have hj' : j < V.length := by omega
        rw [jl j hj']
        have h9 := (h.wd.fam.own j hj').keep (w' := wg) fun b e => A b (zu j hj' b e) fun e2 => h.wd.ap b e2 j hj' e
        have e5 : nsV (V ++ [l]) j = nsV V j := by unfold nsV; rw [gV j hj']
        have e6 : fsV (V ++ [l]) j = fsV V j := by funext y; unfold fsV; rw [gV j hj']
        rw [e5, e6]; exact h9
    · rw [hL] at hj hk
      by_cases c : j = V.length
      · subst c
        rw [je] at e
        rw [jl k (by omega)] at e2
        exact hx b e (.inr (.inr (.inr ⟨k, by omega, e2⟩)))
      · rw [jl j (by omega)] at e
        by_cases c2 : k = V.length
        · subst c2
          rw [je] at e2
          exact hx b e2 (.inr (.inr (.inr ⟨j, by omega, e⟩)))
        · rw [jl k (by omega)] at e2
          exact h.wd.fam.apart j k (by omega) (by omega) hne b e e2
    · rw [hL] at hj
      by_cases c : j = V.length
      · subst c
        rw [je] at e2
        exact hx b e2 (.inr (.inr (.inl (nw b e b rfl (hu.lt e2).2))))
      · rw [jl j (by omega)] at e2
        exact h.wd.ap b (nw b e b rfl (zu j (by omega) b e2)) j (by omega) e2
  refine ⟨h.kn.keep fun b e => A b (h.kn.lt e).2 (h.ks b e).2.1, h.st.keep fun b e => A b (h.st.lt e).2 (h.sw b e).1, F2, fun b e => ⟨(h.ks b e).1, fun e2 => (h.ks b e).2.1 (nw b e2 b rfl (h.kn.lt e).2), fun j hj e2 => ?_⟩, fun b e => ⟨fun e2 => (h.sw b e).1 (nw b e2 b rfl (h.st.lt e).2), fun j hj e2 => ?_⟩⟩
  · rw [hL] at hj
    by_cases c : j = V.length
    · subst c
      rw [je] at e2
      exact hx b e2 (.inl e)
    · rw [jl j (by omega)] at e2
      exact (h.ks b e).2.2 j (by omega) e2
  · rw [hL] at hj
    by_cases c : j = V.length
    · subst c
      rw [je] at e2
      exact hx b e2 (.inr (.inl e))
    · rw [jl j (by omega)] at e2
      exact (h.sw b e).2 j (by omega) e2
theorem SM.at (h : SM B w vk vs vw us M K C V) {wg : World} {o : Obj} {vs' : Value} {C' : List Int} (hs : OwnL .i64 3 wg B vs' C') (hg : (w.alloc o).grownBy wg vs.ownBlock) (ha : ∀ b, vs'.ownBlock = some b → vs.ownBlock = some b ∨ b = (w.alloc o).heap.size) :
    SM B wg vk vs' vw us M K C' V := by
  have zo : (w.alloc o).heap.size = w.heap.size + 1 := by simp
  rw [zo] at ha
  have A : ∀ j, j < w.heap.size → vs.ownBlock ≠ some j → wg.heap[j]? = w.heap[j]? := fun j hj hne => by
    rw [hg.block j (by rw [zo]; omega) (fun e => hne e.symm), Below.heap_alloc _ _ _ hj]
  have zw : ∀ b, vw.ownBlock = some b → b < w.heap.size := fun b e => (h.wd.out.lt e).2
  have zu : ∀ j, j < V.length → ∀ b, (us j).ownBlock = some b → b < w.heap.size := fun j hj b e => ((h.wd.fam.own j hj).lt e).2
  have nw : ∀ b, vs'.ownBlock = some b → b < w.heap.size → vs.ownBlock = some b := fun b e hc => by
    rcases ha b e with e3 | e3
    · exact e3
    · omega
  exact ⟨h.kn.keep fun b e => A b (h.kn.lt e).2 (h.ks b e).1, hs, ⟨h.wd.out.keep fun b e => A b (zw b e) fun e2 => (h.sw b e2).1 e, h.wd.fam.keep fun j hj b e => A b (zu j hj b e) fun e2 => (h.sw b e2).2 j hj e, h.wd.ap⟩, fun b e => ⟨fun e2 => (h.ks b e).1 (nw b e2 (h.kn.lt e).2), (h.ks b e).2⟩, fun b e => ⟨fun e2 => (h.sw b (nw b e (zw b e2))).1 e2, fun j hj e2 => (h.sw b (nw b e (zu j hj b e2))).2 j hj e2⟩⟩
end
end Go.Proofs.Ytagoilabphmdfaa

/-
  What the reference's now returns, of two machines.
-/
namespace Go.Proofs.Ytagoilabphmdfaa
open Go.RowKit

/-- Not the same is said of the empty word. -/
def tl0B (a b : Mc) (s t : Int) : Bool := decide (a.kind = 1) && (a.out.getD s.toNat 0 != b.out.getD t.toNat 0)
/-- Not the same is said of a symbol. -/
def tlxB (a b : Mc) (s t x : Int) : Bool := !decide (a.kind = 1) && (a.out.getD (s * a.k + x).toNat 0 != b.out.getD (t * b.k + x).toNat 0)
theorem tl0B_iff {a b : Mc} {s t : Int} : tl0B a b s t = true ↔ tl0 a b s t := by
  unfold tl0B tl0; simp
theorem tl1B_iff {a b : Mc} {s t : Int} {x : Nat} : (tlxB a b s t x || tl0B a b (nxt a s x) (nxt b t x)) = true ↔ tl1 a b (s, t) x := by
  unfold tl0B tlxB tl1
  by_cases c : a.kind = 1 <;> simp [c]
theorem outp_2 {m : Mc} (R : Right m) (hk : ¬ m.kind = 1) {s x : Int} (s0 : 0 ≤ s) (s1 : s < m.n) (x0 : 0 ≤ x) (x1 : x < m.k) : ∃ P : Nat, s * m.k + x = (P : Int) ∧ P < m.out.length ∧ 0 ≤ s * m.k ∧ s * m.k ≤ 65536 ∧ P ≤ 65536 := by
  obtain ⟨P, h1, h2, h3, h4, h5⟩ := way_of R s0 s1 x0 x1
  refine ⟨P, h1, ?_, h3, h4, h5⟩
  have hk2 : m.kind = 2 := by rcases R.kd with h | h; { exact absurd h hk }; exact h
  have := R.outM hk2
  have := R.nx
  omega

section
variable (a b : Mc) (a1 : Option Addr) (c1 : Nat) (a2 : Option Addr) (c2 : Nat) (d1 : Option Addr) (e1 : Nat) (d2 : Option Addr) (e2 : Nat) (s t : Nat) (w : World)
set_option maxHeartbeats 1000000 in
theorem rnow_e (R : Right a) (Q : Right b) (hkd : b.kind = a.kind) (h2 : RdL .i64 w a2 a.out) (g2 : RdL .i64 w d2 b.out) (hs : (s : Int) < a.n) (ht : (t : Int) < b.n) :
    Calls Try.prog 45 #[mval a a1 c1 a2 c2, mval b d1 e1 d2 e2, .int .i64 s, .int .i64 t, .int .i64 (-1)] w fun e w' => e = .returned (.bool (tl0B a b s t)) ∧ Below w.heap.size w w' := by
  unfold mval
  have b0 := bstep (ballo w (.cells #[.int .i64 a.kind, .int .i64 a.k, .int .i64 a.o, .int .i64 a.n, .slice a1 a.nx.length c1, .slice a2 a.out.length c2] 24)) (ballo _ (.cells #[.int .i64 b.kind, .int .i64 b.k, .int .i64 b.o, .int .i64 b.n, .slice d1 b.nx.length e1, .slice d2 b.out.length e2] 24))
  by_cases hk : a.kind = 1
  · have tk : (a.kind == 1) = true := by simpa using hk
    have hol := R.outD hk
    have hol' := Q.outD (by rw [hkd]; exact hk)
    obtain ⟨ba, oa, rfl, hca⟩ := (h2.below b0).at (i := s) (by omega)
    obtain ⟨bb, ob, rfl, hcb⟩ := (g2.below b0).at (i := t) (by omega)
    have hcs := hca s (by omega)
    have hct := hcb t (by omega)
    have l1 : (s : Int) < (a.out.length : Int) := by omega
    have l2 : (t : Int) < (b.out.length : Int) := by omega
    have HE : Hid (tl0B a b s t = (a.out.getD s 0 != b.out.getD t 0)) := by show _ = _; unfold tl0B; rw [decide_eq_true hk, Int.toNat_natCast, Int.toNat_natCast, Bool.true_and]
    clear hca hcb hk hol hol' hkd
    generalize a.out.getD s 0 = x at *
    generalize b.out.getD t 0 = y at *
    cases hxy : (x != y)
    · rw [hxy] at HE
      go_enter Try.func45, Try.ntmps45
      go_wp2
      go_quiet (fail)
      go_wp2
      go_ret
      exact ⟨ret_bool (unhide HE).symm, below_drewN b0 _⟩
    · rw [hxy] at HE
      go_enter Try.func45, Try.ntmps45
      go_wp2
      go_quiet (fail)
      go_wp2
      go_ret
      exact ⟨ret_bool (unhide HE).symm, below_drewN b0 _⟩
  · have tk : (a.kind == 1) = false := by simpa using hk
    have HE : Hid (tl0B a b s t = false) := by show _ = _; unfold tl0B; rw [decide_eq_false hk, Bool.false_and]
    clear hk h2 g2 hkd
    go_enter Try.func45, Try.ntmps45
    go_wp2
    go_quiet (fail)
    go_wp2
    go_ret
    exact ⟨ret_bool (unhide HE).symm, below_drewN b0 _⟩
set_option maxHeartbeats 1000000 in
theorem rnow_x (x : Int) (x0 : 0 ≤ x) (R : Right a) (Q : Right b) (hkd : b.kind = a.kind) (hbk : b.k = a.k) (h2 : RdL .i64 w a2 a.out) (g2 : RdL .i64 w d2 b.out) (hs : (s : Int) < a.n) (ht : (t : Int) < b.n) (hx : x < a.k) :
    Calls Try.prog 45 #[mval a a1 c1 a2 c2, mval b d1 e1 d2 e2, .int .i64 s, .int .i64 t, .int .i64 x] w fun e w' => e = .returned (.bool (tlxB a b s t x)) ∧ Below w.heap.size w w' := by
  unfold mval
  have b0 := bstep (ballo w (.cells #[.int .i64 a.kind, .int .i64 a.k, .int .i64 a.o, .int .i64 a.n, .slice a1 a.nx.length c1, .slice a2 a.out.length c2] 24)) (ballo _ (.cells #[.int .i64 b.kind, .int .i64 b.k, .int .i64 b.o, .int .i64 b.n, .slice d1 b.nx.length e1, .slice d2 b.out.length e2] 24))
  have k1 := R.k1
  have x1 : decide (x < 0) = false := decide_eq_false (by omega)
  have x2 : decide (0 ≤ x) = true := decide_eq_true x0
  by_cases hk : a.kind = 1
  · have tk : (a.kind == 1) = true := by simpa using hk
    have HE : Hid (tlxB a b s t x = false) := by show _ = _; unfold tlxB; rw [decide_eq_true hk]; rfl
    clear hk h2 g2 hkd hbk
    go_enter Try.func45, Try.ntmps45
    go_wp2
    go_quiet (fail)
    go_wp2
    go_ret
    exact ⟨ret_bool (unhide HE).symm, below_drewN b0 _⟩
  · have tk : (a.kind == 1) = false := by simpa using hk
    obtain ⟨P, hP, hPl, t0, t1, t2⟩ := outp_2 R hk (s := (s : Int)) (by omega) hs (x := x) x0 hx
    obtain ⟨O, hO, hOl, u0, u1, u2⟩ := outp_2 Q (by rw [hkd]; exact hk) (s := (t : Int)) (by omega) ht (x := x) x0 (by rw [hbk]; exact hx)
    obtain ⟨ba, oa, rfl, hca⟩ := (h2.below b0).at hPl
    obtain ⟨bb, ob, rfl, hcb⟩ := (g2.below b0).at hOl
    have hcP := hca P hPl
    have hcO := hcb O hOl
    have l1 : (P : Int) < (a.out.length : Int) := by omega
    have l2 : (O : Int) < (b.out.length : Int) := by omega
    have HE : Hid (tlxB a b s t x = (a.out.getD P 0 != b.out.getD O 0)) := by show _ = _; unfold tlxB; rw [decide_eq_false hk, hP, hO, Int.toNat_natCast, Int.toNat_natCast]; rfl
    clear hca hcb hk hkd hbk
    generalize a.out.getD P 0 = y at *
    generalize b.out.getD O 0 = z at *
    cases hyz : (y != z)
    · rw [hyz] at HE
      go_enter Try.func45, Try.ntmps45
      go_wp2
      go_quiet (fail)
      go_wp2
      go_ret
      exact ⟨ret_bool (unhide HE).symm, below_drewN b0 _⟩
    · rw [hyz] at HE
      go_enter Try.func45, Try.ntmps45
      go_wp2
      go_quiet (fail)
      go_wp2
      go_ret
      exact ⟨ret_bool (unhide HE).symm, below_drewN b0 _⟩
end
end Go.Proofs.Ytagoilabphmdfaa

/-
  What holds on the way of the reference's search.
-/
namespace Go.Proofs.Ytagoilabphmdfaa
open Go.RowKit

/-- The number of a pair. -/
def cdD (b : Mc) (p : Int × Int) : Int := p.1 * b.n + p.2
def InP (a b : Mc) (p : Int × Int) : Prop := (0 ≤ p.1 ∧ p.1 < a.n) ∧ 0 ≤ p.2 ∧ p.2 < b.n
theorem cdD_div {b : Mc} {p : Int × Int} (t0 : 0 ≤ p.2) (t1 : p.2 < b.n) : cdD b p / b.n = p.1 ∧ cdD b p % b.n = p.2 := by
  unfold cdD
  constructor
  · rw [Int.add_comm, Int.add_mul_ediv_right _ _ (by omega), Int.ediv_eq_zero_of_lt t0 t1]; omega
  · rw [Int.add_comm, Int.add_mul_emod_self_right, Int.emod_eq_of_lt t0 t1]
theorem cdD_rng {a b : Mc} {p : Int × Int} (h : InP a b p) : 0 ≤ cdD b p ∧ cdD b p < a.n * b.n := by
  obtain ⟨⟨s0, s1⟩, t0, t1⟩ := h
  unfold cdD
  have h1 : 0 ≤ p.1 * b.n := Int.mul_nonneg s0 (by omega)
  have h2 : (p.1 + 1) * b.n ≤ a.n * b.n := Int.mul_le_mul_of_nonneg_right (by omega) (by omega)
  rw [Int.add_mul, Int.one_mul] at h2
  omega
theorem cdD_inj {a b : Mc} {p q : Int × Int} (hp : InP a b p) (hq : InP a b q) (e : cdD b p = cdD b q) : p = q := by
  have h1 := cdD_div hp.2.1 hp.2.2
  have h2 := cdD_div hq.2.1 hq.2.2
  rw [e] at h1
  exact Prod.ext (h1.1.symm.trans h2.1) (h1.2.symm.trans h2.2)
theorem stp_in {a b : Mc} (R : Right a) (Q : Right b) (hbk : b.k = a.k) {p : Int × Int} {y : Nat} (h : InP a b p) (hy : (y : Int) < a.k) : InP a b (stp a b p (y : Int)) :=
  ⟨nxt_range R h.1.1 h.1.2 hy, nxt_range Q h.2.1 h.2.2 (by rw [hbk]; exact hy)⟩

/-- What holds at the place (i, x). -/
structure DI (a b : Mc) (s t k M : Nat) (w1 wx : World) (vk vs vw : Value) (us : Nat → Value) (i x : Nat) (S : List (Int × Int)) (V : List (List Int)) : Prop where
  mem : SM w1.heap.size wx vk vs vw us M (S.map (cdD b)) (S.map (cdD b)) V
  inv : BfI ((0 : Int), (0 : Int)) (stp a b) k ((s : Int), (t : Int)) i x S V
  nt : ∀ j y, (j < i ∧ y < k ∨ j = i ∧ y < x) → j < S.length → ¬ tl1 a b (S.getD j (0, 0)) y
  d1 : Below w1.heap.size w1 wx

section
variable {a b : Mc} {s t k M : Nat} {w1 wx wy : World} {vk vs vw : Value} {us : Nat → Value} {i x : Nat} {S : List (Int × Int)} {V : List (List Int)}
theorem DI.on (h : DI a b s t k M w1 wx vk vs vw us i x S V) (hb : Below wx.heap.size wx wy) : DI a b s t k M w1 wy vk vs vw us i x S V := ⟨h.mem.below hb, h.inv, h.nt, h.d1.trans (hb.mono h.d1.size)⟩
theorem DI.draws (h : DI a b s t k M w1 wx vk vs vw us i x S V) (q : Nat) : DI a b s t k M w1 (wx.drewN q) vk vs vw us i x S V := ⟨h.mem.draws q, h.inv, h.nt, below_drewN h.d1 q⟩
theorem DI.row (h : DI a b s t k M w1 wx vk vs vw us i x S V) (hi : i < S.length) (hx : ¬ x < k) : DI a b s t k M w1 wx vk vs vw us (i + 1) 0 S V := by
  have := h.inv.xl
  exact ⟨h.mem, h.inv.row hi hx, fun j y hc hj => h.nt j y (by omega) hj, h.d1⟩
theorem DI.old (h : DI a b s t k M w1 wx vk vs vw us i x S V) (hi : i < S.length) (hx : x < k) (hm : stp a b (S.getD i (0, 0)) (x : Int) ∈ S) (hn : ¬ tl1 a b (S.getD i (0, 0)) x) : DI a b s t k M w1 wx vk vs vw us i (x + 1) S V := by
  refine ⟨h.mem, h.inv.old hi hx hm, fun j y hc hj => ?_, h.d1⟩
  by_cases e : j = i ∧ y = x
  · obtain ⟨rfl, rfl⟩ := e; exact hn
  · exact h.nt j y (by omega) hj
theorem DI.new (h : DI a b s t k M w1 wx vk vs vw us i x S V) (hi : i < S.length) (hx : x < k) (hm : ¬ stp a b (S.getD i (0, 0)) (x : Int) ∈ S) (hn : ¬ tl1 a b (S.getD i (0, 0)) x) {vs' vw' : Value} {us' : Nat → Value} {T : Nat} (hT : cdD b (stp a b (S.getD i (0, 0)) (x : Int)) = (T : Int)) (mem : SM w1.heap.size wy vk vs' vw' us' M (S.map (cdD b) ++ [(T : Int)]) (S.map (cdD b) ++ [(T : Int)]) (V ++ [V.getD i [] ++ [(x : Int)]])) (d1 : Below w1.heap.size w1 wy) :
    DI a b s t k M w1 wy vk vs' vw' us' i (x + 1) (S ++ [stp a b (S.getD i (0, 0)) (x : Int)]) (V ++ [V.getD i [] ++ [(x : Int)]]) := by
  have e : (S ++ [stp a b (S.getD i (0, 0)) (x : Int)]).map (cdD b) = S.map (cdD b) ++ [(T : Int)] := by rw [List.map_append, List.map_singleton, hT]
  refine ⟨by rw [e]; exact mem, h.inv.new hi hx hm, fun j y hc hj => ?_, d1⟩
  have hj' : j < S.length := by omega
  rw [gd_left _ hj']
  by_cases e : j = i ∧ y = x
  · obtain ⟨rfl, rfl⟩ := e; exact hn
  · exact h.nt j y (by omega) hj'
theorem DI.rng (h : DI a b s t k M w1 wx vk vs vw us i x S V) (R : Right a) (Q : Right b) (hbk : b.k = a.k) (hk : a.k = (k : Int)) (hs : (s : Int) < a.n) (ht : (t : Int) < b.n) : ∀ p, p < S.length → InP a b (S.getD p (0, 0)) :=
  h.inv.all (G := InP a b) ⟨⟨by show (0 : Int) ≤ s; omega, hs⟩, by show (0 : Int) ≤ t; omega, ht⟩ fun p y hp hy => stp_in R Q hbk hp (by omega)
theorem DI.size (h : DI a b s t k M w1 wx vk vs vw us i x S V) (R : Right a) (Q : Right b) (hbk : b.k = a.k) (hk : a.k = (k : Int)) (hs : (s : Int) < a.n) (ht : (t : Int) < b.n) (hM : a.n * b.n = (M : Int)) : S.length ≤ M :=
  h.inv.size (cdD b) (fun p hp => by rw [← hM]; exact cdD_rng (h.rng R Q hbk hk hs ht p hp)) fun p q hp hq e => cdD_inj (h.rng R Q hbk hk hs ht p hp) (h.rng R Q hbk hk hs ht q hq) e
theorem DI.mem_iff (h : DI a b s t k M w1 wx vk vs vw us i x S V) (R : Right a) (Q : Right b) (hbk : b.k = a.k) (hk : a.k = (k : Int)) (hs : (s : Int) < a.n) (ht : (t : Int) < b.n) {p : Int × Int} (hp : InP a b p) : cdD b p ∈ S.map (cdD b) ↔ p ∈ S := by
  constructor
  · intro e
    obtain ⟨q, hq, e2⟩ := List.mem_map.1 e
    obtain ⟨j, hj, rfl⟩ := mem_gdα (d := ((0 : Int), (0 : Int))) hq
    rw [← cdD_inj (h.rng R Q hbk hk hs ht j hj) hp e2]
    exact hq
  · exact fun e => List.mem_map.2 ⟨p, e, rfl⟩
theorem bfi_len {α : Type} {d : α} {f : α → Int → α} {p0 : α} {k i x : Nat} {S : List α} {V : List (List Int)} (h : BfI d f k p0 i x S V) : ∀ p, p < S.length → (V.getD p []).length ≤ p
  | 0, _ => by rw [h.v0]; simp
  | p + 1, hp => by
    obtain ⟨j, y, hj, _, _, e⟩ := h.par (p + 1) (by omega) hp
    rw [e, List.length_append, List.length_singleton]
    have := bfi_len h j (by omega)
    omega
  termination_by p => p
theorem gd_mapD {f : Int × Int → Int} {i : Nat} (h : i < S.length) : (S.map f).getD i 0 = f (S.getD i (0, 0)) := by
  simp [List.getD, h]
end
/-- What a search leaves. -/
def ScPost (o : Option (List Int)) (w : World) (e : Ending) (w' : World) : Prop :=
  ∃ v, e = .returned (.tuple #[v, .bool o.isSome]) ∧ OwnL .i64 3 w' w.heap.size v (o.getD []) ∧ Below w.heap.size w w'
end Go.Proofs.Ytagoilabphmdfaa

/-
  What the reference's search returns: the first word that tells apart.
-/
namespace Go.Proofs.Ytagoilabphmdfaa
open Go.RowKit

theorem blk_sl {g off n c b : Nat} (e : (Value.slice (some ⟨g, off, none⟩) n c).ownBlock = some b) : g = b := Option.some.inj e
theorem of_false {p : Prop} {x : Bool} (h : x = true ↔ p) (e : x = false) : ¬ p := fun c => by rw [h.2 c] at e; cases e

set_option maxRecDepth 100000 in
set_option maxHeartbeats 4000000 in
theorem rsearch_any (a b : Mc) (a1 : Option Addr) (c1 : Nat) (a2 : Option Addr) (c2 : Nat) (d1 : Option Addr) (e1 : Nat) (d2 : Option Addr) (e2 : Nat) (s t : Nat) (w : World) (o : Option (List Int)) (R : Right a) (Q : Right b) (hkd : b.kind = a.kind) (hbk : b.k = a.k) (h1 : RdL .i64 w a1 a.nx) (h2 : RdL .i64 w a2 a.out) (g1 : RdL .i64 w d1 b.nx) (g2 : RdL .i64 w d2 b.out) (hs : (s : Int) < a.n) (ht : (t : Int) < b.n) (ho : SepR a b s t o) :
    Calls Try.prog 31 #[mval a a1 c1 a2 c2, mval b d1 e1 d2 e2, .int .i64 s, .int .i64 t] w fun e w' => ScPost o w e w' := by
  obtain ⟨w0, hw0⟩ : ∃ w0, w0 = (w.alloc (.cells #[.int .i64 a.kind, .int .i64 a.k, .int .i64 a.o, .int .i64 a.n, .slice a1 a.nx.length c1, .slice a2 a.out.length c2] 24)).alloc (.cells #[.int .i64 b.kind, .int .i64 b.k, .int .i64 b.o, .int .i64 b.n, .slice d1 b.nx.length e1, .slice d2 b.out.length e2] 24) := ⟨_, rfl⟩
  have b0 : Below w.heap.size w w0 := by rw [hw0]; exact bstep (ballo _ _) (ballo _ _)
  have A0 : Box w0 w.heap.size a a1 c1 a2 c2 := by rw [hw0]; exact (Box.alloc w a a1 c1 a2 c2 24).below (ballo _ _)
  have B0 : Box w0 (w.heap.size + 1) b d1 e1 d2 e2 := by
    have := Box.alloc (w.alloc (.cells #[.int .i64 a.kind, .int .i64 a.k, .int .i64 a.o, .int .i64 a.n, .slice a1 a.nx.length c1, .slice a2 a.out.length c2] 24)) b d1 e1 d2 e2 24
    rw [hw0]
    simp only [World.size_alloc] at this
    exact this
  have HN0 := hide (rnow_e a b a1 c1 a2 c2 d1 e1 d2 e2 s t w0 R Q hkd (h2.below b0) (g2.below b0) hs ht)
  unfold mval at HN0 ⊢
  have m0 := R.n0
  have m1 := R.n1
  have o0 := Q.n0
  have o1 := Q.n1
  have k0 := R.k0
  have k1 := R.k1
  have hMO : ∃ MO : Nat, a.n * b.n = (MO : Int) := Int.eq_ofNat_of_zero_le (Int.mul_nonneg (by omega) (by omega))
  obtain ⟨M, hM⟩ := hMO
  have hM1 : 1 * 1 ≤ a.n * b.n := Int.mul_le_mul m0 o0 (by omega) (by omega)
  have hM2 : a.n * b.n ≤ 1024 * 1024 := Int.mul_le_mul m1 o1 (by omega) (by omega)
  have hMa : 1 ≤ M := by omega
  have hMb : M ≤ 1048576 := by omega
  obtain ⟨k, hk⟩ := Int.eq_ofNat_of_zero_le (show 0 ≤ a.k by omega)
  have i0 : InP a b ((s : Int), (t : Int)) := ⟨⟨by show (0 : Int) ≤ s; omega, hs⟩, by show (0 : Int) ≤ t; omega, ht⟩
  have hc := cdD_rng i0
  obtain ⟨c0, hcc⟩ := Int.eq_ofNat_of_zero_le hc.1
  have hc1 : c0 < M := by omega
  have HC0 := hide hcc
  have hc0 : (s : Int) * b.n + (t : Int) = (c0 : Int) := hcc
  have un0 : 0 ≤ (s : Int) * b.n := Int.mul_nonneg (by omega) (by omega)
  have un1 : (s : Int) * b.n ≤ 1048576 := by omega
  have ht1 : (t : Int) ≤ 1024 := by omega
  have hc1' : (c0 : Int) < (M : Int) := by omega
  have HM := hide hM
  have HK := hide hk
  have HR := hide R
  have HQ := hide Q
  have HKD := hide hkd
  have HBK := hide hbk
  have HO := hide ho
  have HS := hide hs
  have HT := hide ht
  have HA := hide A0
  have HB := hide B0
  have HW : Hid (Below w.heap.size w w0) := b0
  have HZ : Hid (w0.heap.size = w.heap.size + 2) := by show _ = _; rw [hw0]; simp
  obtain ⟨p0, p1, p2, p3, p4, p5⟩ := A0
  obtain ⟨q0, q1, q2, q3, q4, q5⟩ := B0
  clear R Q hkd hbk ho hM hk hc i0 hs ht b0 hcc
  go_enter Try.func31, Try.ntmps31
  go_wp2_with fail
  rw [← hw0]
  refine (unhide HN0).mono ?_
  rintro e w1 ⟨rfl, hb1⟩
  have HW1 := hide (bstep (unhide HW) hb1)
  have HA1 := hide ((unhide HA).below hb1)
  have HB1 := hide ((unhide HB).below hb1)
  have hz1 : w.heap.size + 2 ≤ w1.heap.size := by have := hb1.size; have := unhide HZ; omega
  clear HN0 p0 p1 p2 p3 p4 p5 q0 q1 q2 q3 q4 q5 HA HB HW hw0 hb1 HZ
  cases htl : tl0B a b s t
  rotate_left
  · have HE : Hid (o = some []) := SepR.one (unhide HO) (show SepR a b s t (some []) from sep_now (unhide HKD) (tl0B_iff.1 htl))
    clear htl
    go_wp2
    go_ret2
    rw [unhide HE]
    exact ⟨_, rfl, OwnL.nil _ _ _ _, unhide HW1⟩
  have HN := hide (of_false tl0B_iff htl)
  clear htl
  obtain ⟨p0, p1, p2, p3, p4, p5⟩ := unhide HA1
  obtain ⟨q0, q1, q2, q3, q4, q5⟩ := unhide HB1
  go_wp2_with (at_make; refine wplK_make rfl (.tmp 29) (.tmp 29) rfl w1.heap.size _ _ M rfl rfl (by first | rfl | exact unhide HM) (by first | rfl | exact unhide HM) (by omega) (Nat.le_refl _) ?_; intro w2 hK2 hb2 hg2; obtain ⟨gk, ck, ek, -, -, hk1, hk2, hkc, hkf⟩ := hK2.pos (by omega); cases ek; have kc0 := hkc c0 hc1; have kf0 := hkf c0; have q3' : w2.cell? ⟨w.heap.size + 1, 3, none⟩ = some (.int .i64 b.n) := (hb2.cell (by show w.heap.size + 1 < w1.heap.size; omega)).trans q3; have q3x : (((w2.setCell ⟨w1.heap.size, c0, none⟩ (.bool true)).alloc (.cells #[] 3)).alloc (.cells #[.slice (some ⟨w2.heap.size, 0, none⟩) 0 0] 22)).cell? ⟨w.heap.size + 1, 3, none⟩ = some (.int .i64 b.n) := ((bstep (bstep (hb2.setCell (p := ⟨w1.heap.size, c0, none⟩) (Nat.le_refl _) _) (ballo _ _)) (ballo _ _)).cell (by show w.heap.size + 1 < w1.heap.size; omega)).trans q3)
  have hz2 : w1.heap.size < w2.heap.size := hk2
  obtain ⟨w3, w3e⟩ : ∃ w3, w3 = ((((w2.setCell ⟨w1.heap.size, c0, none⟩ (.bool true)).alloc (.cells #[] 3)).alloc (.cells #[.slice (some ⟨w2.heap.size, 0, none⟩) 0 0] 22)).alloc (.cells #[.int .i64 (c0 : Int)] 3)) := ⟨_, rfl⟩
  have K3 : ∀ j, j < w2.heap.size → w3.heap[j]? = (w2.setCell ⟨w1.heap.size, c0, none⟩ (.bool true)).heap[j]? := fun j hj => by
    rw [w3e, Below.heap_alloc _ _ _ (by simp; omega), Below.heap_alloc _ _ _ (by simp; omega), Below.heap_alloc _ _ _ (by simp; omega)]
  have I0 : DI a b s t k M w1 w3 (.slice (some ⟨w1.heap.size, 0, none⟩) M M) (.slice (some ⟨w2.heap.size + 1 + 1, 0, none⟩) 1 1) (.slice (some ⟨w2.heap.size + 1, 0, none⟩) 1 1) (fun _ => .slice (some ⟨w2.heap.size, 0, none⟩) 0 0) 0 0 [((s : Int), (t : Int))] [[]] := by
    have e2 : Below w1.heap.size w1 (w2.setCell ⟨w1.heap.size, c0, none⟩ (.bool true)) := hb2.setCell (p := ⟨w1.heap.size, c0, none⟩) (Nat.le_refl _) _
    have e3 : Below w1.heap.size w1 w3 := by rw [w3e]; exact bstep (bstep (bstep e2 (ballo _ _)) (ballo _ _)) (ballo _ _)
    have hs2 : (w2.setCell ⟨w1.heap.size, c0, none⟩ (.bool true)).heap.size = w2.heap.size := by simp
    have eC : [((s : Int), (t : Int))].map (cdD b) = [(c0 : Int)] := by rw [List.map_singleton, unhide HC0]
    refine ⟨?_, BfI.start, fun j y hc _ => by omega, e3⟩
    rw [eC]
    refine ⟨?_, ?_, ⟨?_, ⟨fun j hj => ?_, fun j k hj hk hne => ?_⟩, fun b e j hj e2 => ?_⟩, fun b e => ?_, fun b e => ?_⟩
    · refine (hK2.store c0).keep fun b e => K3 b ?_
      have := blk_sl e; omega
    · have h5 := OwnL.lit (q := .i64) (t := 3) (((w2.setCell ⟨w1.heap.size, c0, none⟩ (.bool true)).alloc (.cells #[] 3)).alloc (.cells #[.slice (some ⟨w2.heap.size, 0, none⟩) 0 0] 22)) w1.heap.size [(c0 : Int)] #[.int .i64 (c0 : Int)] (by simp; omega) (by unfold maxLen; simp) rfl
      simp only [World.size_alloc, hs2] at h5
      rw [w3e]; exact h5
    · have h5 := World.ownsRow_lit (base := w1.heap.size) (e := 22) ((w2.setCell ⟨w1.heap.size, c0, none⟩ (.bool true)).alloc (.cells #[] 3)) #[.slice (some ⟨w2.heap.size, 0, none⟩) 0 0] (size := 1) 1 (by simp; omega) (by unfold maxLen; simp) (by simp)
      simp only [World.size_alloc, hs2] at h5
      rw [w3e]
      exact ownsRow_keep h5 fun b e => Below.heap_alloc _ _ _ (by have := blk_sl e; simp; omega)
    · obtain rfl : j = 0 := by simpa using hj
      have h5 := Own.lit (w2.setCell ⟨w1.heap.size, c0, none⟩ (.bool true)) w1.heap.size 0 (fsV [[]] 0) #[] (by simp; omega) (by decide) rfl
      rw [hs2] at h5
      rw [w3e]
      exact (h5.alloc _).alloc _
    · simp at hj hk; omega
    · have := blk_sl e; have := blk_sl e2; omega
    · have := blk_sl e
      exact ⟨(fun e2 => by have := blk_sl e2; omega), (fun e2 => by have := blk_sl e2; omega), fun j hj e2 => by have := blk_sl e2; omega⟩
    · have := blk_sl e
      exact ⟨(fun e2 => by have := blk_sl e2; omega), fun j hj e2 => by have := blk_sl e2; omega⟩
  have HI0 := hide I0
  rw [← w3e]
  clear I0 K3 w3e kc0 kf0 hkc hkf hK2 hb2 hg2 p0 p1 p2 p3 p4 p5 q0 q1 q2 q3 q4 q5 q3' q3x hk1 hk2 hz2 hc0 HC0
  go_loopw [11, 12, 13] (fun vw vs cx wx => ∃ (i : Nat) (us : Nat → Value) (S : List (Int × Int)) (V : List (List Int)), cx = .int .i64 i ∧ DI a b s t k M w1 wx (.slice (some ⟨w1.heap.size, 0, none⟩) M M) vs vw us i 0 S V) (fun _ _ cx _ => M - (intOf cx).toNat)
  case atStart => exact ⟨0, _, _, _, rfl, unhide HI0⟩
  case round =>
    obtain ⟨i, us, S, V, rfl, hinv⟩ := hrel
    clear HI0
    have HI := hide hinv
    have hsz := hinv.size (unhide HR) (unhide HQ) (unhide HBK) (unhide HK) (unhide HS) (unhide HT) (unhide HM)
    have hbx := (unhide HW1).trans (hinv.d1.mono (by omega))
    have hil := hinv.inv.il
    have hlV := hinv.inv.len
    obtain ⟨aw, cw, ew, -⟩ := hinv.mem.wd.rdx
    subst ew
    obtain ⟨as', cs', es', -, -, -, -, -⟩ := hinv.mem.st.shape
    rw [List.length_map] at es'
    subst es'
    by_cases hlt : i < S.length
    rotate_left
    · have HE : Hid (o = none) := by
        have e : i = S.length := by omega
        have h9 := hinv
        rw [e] at h9
        exact SepR.one (unhide HO) (h9.inv.sepN (unhide HKD) (unhide HR).kd (unhide HK) (unhide HN) fun j y hj hy => h9.nt j y (.inl ⟨hj, hy⟩) hj)
      have hx : ¬ (i : Int) < (V.length : Int) := by omega
      clear hinv hlV hil
      go_wp2
      go_ret2
      rw [unhide HE]
      exact ⟨_, rfl, OwnL.nil _ _ _ _, hbx⟩
    have hlt' : (i : Int) < (V.length : Int) := by omega
    have hlt2 : (i : Int) < (S.length : Int) := by omega
    obtain ⟨p0, p1, p2, p3, p4, p5⟩ := (unhide HA1).below hinv.d1
    obtain ⟨q0, q1, q2, q3, q4, q5⟩ := (unhide HB1).below hinv.d1
    obtain ⟨gs, cs, es, -, -, -, -, hcs, -⟩ := hinv.mem.st.pos (by rw [List.length_map]; omega)
    rw [List.length_map] at es
    cases es
    have hcell := hcs i (by rw [List.length_map]; exact hlt)
    rw [gd_mapD hlt] at hcell
    have hr := hinv.rng (unhide HR) (unhide HQ) (unhide HBK) (unhide HK) (unhide HS) (unhide HT) i hlt
    obtain ⟨D, hD⟩ : ∃ D, D = S.getD i (0, 0) := ⟨_, rfl⟩
    rw [← hD] at hcell hr
    have hdv := cdD_div (b := b) hr.2.1 hr.2.2
    have hcr := cdD_rng hr
    obtain ⟨s', hs'⟩ := Int.eq_ofNat_of_zero_le hr.1.1
    obtain ⟨t', ht'⟩ := Int.eq_ofNat_of_zero_le hr.2.1
    have HD : Hid (S.getD i (0, 0) = ((s' : Int), (t' : Int))) := by show _ = _; rw [← hD, ← hs', ← ht']
    obtain ⟨P, hP⟩ : ∃ P, P = cdD b D := ⟨_, rfl⟩
    rw [← hP] at hcell hdv hcr
    rw [hs', ht'] at hdv
    have HS1 := hide hdv.1
    have HT1 := hide hdv.2
    have Hs1 : Hid ((s' : Int) < a.n) := by show _ < _; rw [← hs']; exact hr.1.2
    have Ht1 : Hid ((t' : Int) < b.n) := by show _ < _; rw [← ht']; exact hr.2.2
    have P0 := hcr.1
    have P1 : P ≤ 1048576 := by have := hcr.2; omega
    have dd0 : 0 ≤ P / b.n := by rw [hdv.1]; omega
    have dd1 : P / b.n ≤ 1024 := by rw [hdv.1]; have := unhide Hs1; omega
    have rr0 : 0 ≤ P % b.n := by rw [hdv.2]; omega
    have rr1 : P % b.n ≤ 1024 := by rw [hdv.2]; have := unhide Ht1; omega
    have hnz : (b.n == 0) = false := by simp; omega
    have HLT := hide hlt
    clear hinv hcs hr hs' ht' hP hdv hcr hD hlV hil hsz
    go_wp2
    go_quiet (fail)
    rw [unhide HS1, unhide HT1]
    have HI5 := hide ((unhide HI).draws nq)
    clear HI p0 p1 p2 p3 p4 p5 q0 q1 q2 q3 q4 q5 hbx hcell hlt' hlt2 dd0 dd1 rr0 rr1 P0 P1 hlt
    generalize wr.drewN nq = w5 at *
    go_wp2
    go_loopw [11, 12, 16] (fun vw vs cx wx => ∃ (x : Nat) (us : Nat → Value) (S' : List (Int × Int)) (V' : List (List Int)), cx = .int .i64 x ∧ x ≤ k ∧ Hid (i < S'.length ∧ S'.getD i (0, 0) = ((s' : Int), (t' : Int))) ∧ DI a b s t k M w1 wx (.slice (some ⟨w1.heap.size, 0, none⟩) M M) vs vw us i x S' V') (fun _ _ cx _ => k - (intOf cx).toNat)
    case atStart => exact ⟨0, us, S, V, rfl, Nat.zero_le _, ⟨unhide HLT, unhide HD⟩, unhide HI5⟩
    case round =>
      obtain ⟨x, us', S', V', rfl, hxk, hgd, hinv⟩ := hrel
      clear HI5 HLT HD
      have HI := hide hinv
      have hiS := (unhide hgd).1
      have hsz := hinv.size (unhide HR) (unhide HQ) (unhide HBK) (unhide HK) (unhide HS) (unhide HT) (unhide HM)
      have hlV := hinv.inv.len
      have hiV : i < V'.length := by omega
      have HLV := hide hlV
      obtain ⟨gw, cw', ew, -, -, -, hgw, hcw, -⟩ := hinv.mem.wd.out.pos (by omega)
      subst ew
      obtain ⟨gs', cs2, es, -, -, -, hgs, -, -⟩ := hinv.mem.st.pos (by rw [List.length_map]; omega)
      rw [List.length_map] at es
      subst es
      obtain ⟨p0, p1, p2, p3, p4, p5⟩ := (unhide HA1).below hinv.d1
      by_cases hx : (x : Int) < a.k
      rotate_left
      · have HX : Hid (¬ x < k) := by have := unhide HK; show ¬ _; omega
        clear hinv hlV
        go_wp2
        go_roundw
        case rel => exact ⟨i + 1, us', S', V', by go_num, (unhide HI).row hiS (unhide HX)⟩
        case measure => simp [intOf]; omega
      have hcwj := hcw i hiV
      obtain ⟨ai, ci, ei, hnil, hlc, hrdX, hXb⟩ := (hinv.mem.wd.fam.own i hiV).shape
      have eL : nsV V' i = (V'.getD i []).length := rfl
      rw [ei] at hcwj
      rw [eL] at hnil hlc hcwj ei
      have hrdX : RdL .i64 wr ai (V'.getD i []) := hrdX
      have hX0 : (V'.getD i []).length ≤ 1048576 := by
        have h8 : (V'.getD i []).length ≤ i := bfi_len hinv.inv i hiS
        omega
      have HXK : Hid (x < k) := by have := unhide HK; show _ < _; omega
      obtain ⟨X, hX⟩ : ∃ X, X = V'.getD i [] := ⟨_, rfl⟩
      rw [← hX] at hrdX hnil hlc hcwj hX0
      have HXX := hide hX
      have hiV' : (i : Int) < (V'.length : Int) := by omega
      have hzr := hinv.d1.size
      have HD1 := hide hinv.d1
      clear hinv hlV hcw ei eL hXb hX
      go_wp2_with (go_at_call 46; refine (join_list ai ci X (some ⟨wr.heap.size, 0, none⟩) 1 [(x : Int)] _ (hrdX.below (ballo wr _)) hnil (RdL.one _ _) (by simp) (by simp only [List.length_cons, List.length_nil]; omega)).mono ?_; rintro e we ⟨uu, rfl, hu, hbu⟩; obtain ⟨au, cu, eu, -, -, -, -, -⟩ := hu.shape; rw [show (X ++ [(x : Int)]).length = X.length + 1 by simp] at eu; subst eu)
      have bw : Below wr.heap.size wr we := bstep (ballo _ _) hbu
      have HIe := hide ((unhide HI).on bw)
      have HU := hide hu
      have HUX : Hid (∀ b, (Value.slice au (X.length + 1) cu).ownBlock = some b → ¬ smX (.slice (some ⟨w1.heap.size, 0, none⟩) M M) (.slice (some ⟨gs', 0, none⟩) S'.length cs2) (.slice (some ⟨gw, 0, none⟩) V'.length cw') us' V'.length b) := fun b e e2 => by
        have h8 := (hu.lt e).1
        have h9 := ((unhide HI).mem.lt e2).2
        simp at h8
        omega
      have bxe := (unhide HW1).trans ((unhide HIe).d1.mono (by omega))
      have ze := bw.size
      clear p0 p1 p2 p3 p4 p5
      obtain ⟨p0, p1, p2, p3, p4, p5⟩ := (unhide HA1).below (unhide HIe).d1
      obtain ⟨q0, q1, q2, q3, q4, q5⟩ := (unhide HB1).below (unhide HIe).d1
      obtain ⟨PX, hPX, hPXl, x0, x1, x2⟩ := way_of (unhide HR) (s := (s' : Int)) (by omega) (unhide Hs1) (x := (x : Int)) (by omega) hx
      obtain ⟨PY, hPY, hPYl, y0, y1, y2⟩ := way_of (unhide HQ) (s := (t' : Int)) (by omega) (unhide Ht1) (x := (x : Int)) (by omega) (by rw [unhide HBK]; exact hx)
      obtain ⟨b7, off7, e7, hm7⟩ := (h1.below bxe).at hPXl
      obtain ⟨b8, off8, e8, hm8⟩ := (g1.below bxe).at hPYl
      rw [e7] at p4
      rw [e8] at q4
      have hnX := hm7 PX hPXl
      have hnY := hm8 PY hPYl
      have rX := (unhide HR).st PX hPXl
      have rY := (unhide HQ).st PY hPYl
      obtain ⟨u, hu'⟩ := Int.eq_ofNat_of_zero_le rX.1
      obtain ⟨v, hv'⟩ := Int.eq_ofNat_of_zero_le rY.1
      have HEU : Hid (nxt a (s' : Int) (x : Int) = (u : Int)) := by show _ = _; unfold nxt; rw [hPX, Int.toNat_natCast, hu']
      have HEV : Hid (nxt b (t' : Int) (x : Int) = (v : Int)) := by show _ = _; unfold nxt; rw [hPY, Int.toNat_natCast, hv']
      rw [hu'] at hnX rX
      rw [hv'] at hnY rY
      have Hru := hide rX.2
      have Hrv := hide rY.2
      have hPXl' : (PX : Int) < (a.nx.length : Int) := by omega
      have hPYl' : (PY : Int) < (b.nx.length : Int) := by omega
      clear hm7 hm8 hu' hv' rX rY e7 e8 bw hbu hu HI hrdX hnil hlc hcwj
      go_quiet (fail)
      have HIq := hide ((unhide HIe).draws nq)
      have HUq : Hid (OwnL .i64 3 (we.drewN nq) (wr.alloc (.cells #[.int .i64 (x : Int)] 3)).heap.size (.slice au (X.length + 1) cu) (X ++ [(x : Int)])) := (unhide HU).keep fun _ _ => rfl
      have zq : wr.heap.size ≤ (we.drewN nq).heap.size := ze
      clear p0 p1 p2 p3 p4 p5 q0 q1 q2 q3 q4 q5 HIe HU bxe hnX hnY hPX hPY x0 x1 x2 y0 y1 y2 hPXl hPYl hPXl' hPYl'
      generalize we.drewN nq = w6 at *
      have bx6 := (unhide HW1).trans ((unhide HIq).d1.mono (by omega))
      obtain ⟨p0, p1, p2, p3, p4, p5⟩ := (unhide HA1).below (unhide HIq).d1
      obtain ⟨q0, q1, q2, q3, q4, q5⟩ := (unhide HB1).below (unhide HIq).d1
      have HN1 := hide (rnow_x a b a1 c1 a2 c2 d1 e1 d2 e2 s' t' w6 (x : Int) (by omega) (unhide HR) (unhide HQ) (unhide HKD) (unhide HBK) (h2.below bx6) (g2.below bx6) (unhide Hs1) (unhide Ht1) hx)
      unfold mval at HN1
      go_wp2_with fail
      refine (unhide HN1).mono ?_
      rintro e w7 ⟨rfl, hb7⟩
      have HI7 := hide ((unhide HIq).on hb7)
      have HU7 := hide (OwnL.keep (unhide HUq) (w' := w7) fun b e => hb7.block b (OwnL.lt (unhide HUq) e).2)
      have bx7 := (unhide HW1).trans ((unhide HI7).d1.mono (by omega))
      have z7 := hb7.size
      clear p0 p1 p2 p3 p4 p5 q0 q1 q2 q3 q4 q5 HN1 HIq HUq bx6 hb7
      have HTF : Hid (tl1 a b (S'.getD i (0, 0)) x → o = some (X ++ [(x : Int)])) := fun h => by
        have h9 := (unhide HI7).inv.sep (unhide HKD) (unhide HR).kd (unhide HK) hiS (unhide HXK) (unhide HN) (unhide HI7).nt h
        rw [← unhide HXX] at h9
        exact SepR.one (unhide HO) (show SepR a b s t (some (X ++ [(x : Int)])) from h9)
      have HTB : Hid ((tlxB a b s' t' x || tl0B a b u v) = true ↔ tl1 a b (S'.getD i (0, 0)) x) := by
        have h9 := tl1B_iff (a := a) (b := b) (s := (s' : Int)) (t := (t' : Int)) (x := x)
        rw [unhide HEU, unhide HEV] at h9
        show _ ↔ _
        rw [(unhide hgd).2]
        exact h9
      cases hTx : tlxB a b s' t' x
      rotate_left
      · have HE : Hid (o = some (X ++ [(x : Int)])) := unhide HTF ((unhide HTB).1 (by rw [hTx]; rfl))
        clear hTx
        go_wp2
        go_ret2
        rw [unhide HE]
        exact ⟨_, rfl, OwnL.mono (unhide HU7) (by simp; omega), bx7⟩
      have HTX := hide hTx
      clear hTx
      obtain ⟨p0, p1, p2, p3, p4, p5⟩ := (unhide HA1).below (unhide HI7).d1
      obtain ⟨q0, q1, q2, q3, q4, q5⟩ := (unhide HB1).below (unhide HI7).d1
      have HN2 := hide (rnow_e a b a1 c1 a2 c2 d1 e1 d2 e2 u v w7 (unhide HR) (unhide HQ) (unhide HKD) (h2.below bx7) (g2.below bx7) (unhide Hru) (unhide Hrv))
      unfold mval at HN2
      go_wp2_with fail
      refine (unhide HN2).mono ?_
      rintro e w8 ⟨rfl, hb8⟩
      have HI8 := hide ((unhide HI7).on hb8)
      have HU8 := hide (OwnL.keep (unhide HU7) (w' := w8) fun b e => hb8.block b (OwnL.lt (unhide HU7) e).2)
      have bx8 := (unhide HW1).trans ((unhide HI8).d1.mono (by omega))
      have z8 : wr.heap.size ≤ w8.heap.size := by have := hb8.size; omega
      clear p0 p1 p2 p3 p4 p5 q0 q1 q2 q3 q4 q5 HN2 HI7 HU7 bx7 hb8 z7
      cases hT0 : tl0B a b u v
      rotate_left
      · have HE : Hid (o = some (X ++ [(x : Int)])) := unhide HTF ((unhide HTB).1 (by rw [unhide HTX, hT0]; rfl))
        clear hT0
        go_wp2
        go_ret2
        rw [unhide HE]
        exact ⟨_, rfl, OwnL.mono (unhide HU8) (by simp; omega), bx8⟩
      have HNT : Hid (¬ tl1 a b (S'.getD i (0, 0)) x) := of_false (unhide HTB) (by rw [unhide HTX, hT0]; rfl)
      clear hT0 HTX HTB HTF
      have iuv : InP a b ((u : Int), (v : Int)) := ⟨⟨by show (0 : Int) ≤ u; omega, unhide Hru⟩, by show (0 : Int) ≤ v; omega, unhide Hrv⟩
      have hcr := cdD_rng iuv
      obtain ⟨T, hT⟩ := Int.eq_ofNat_of_zero_le hcr.1
      have hTl : T < M := by have := unhide HM; omega
      have HTT : Hid (cdD b (stp a b (S'.getD i (0, 0)) (x : Int)) = (T : Int)) := by
        show _ = _
        rw [(unhide hgd).2]
        show cdD b (nxt a (s' : Int) (x : Int), nxt b (t' : Int) (x : Int)) = _
        rw [unhide HEU, unhide HEV, hT]
      have HMI : Hid ((T : Int) ∈ S'.map (cdD b) ↔ stp a b (S'.getD i (0, 0)) (x : Int) ∈ S') := by
        have h9 := (unhide HI8).mem_iff (unhide HR) (unhide HQ) (unhide HBK) (unhide HK) (unhide HS) (unhide HT) iuv
        rw [hT] at h9
        show _ ↔ _
        rw [(unhide hgd).2]
        show _ ↔ (nxt a (s' : Int) (x : Int), nxt b (t' : Int) (x : Int)) ∈ S'
        rw [unhide HEU, unhide HEV]
        exact h9
      have hT' : (u : Int) * b.n + (v : Int) = (T : Int) := hT
      have uu0 : 0 ≤ (u : Int) * b.n := Int.mul_nonneg (by omega) (by omega)
      have uu1 : (u : Int) * b.n ≤ 1048576 := by omega
      have vv1 : (v : Int) ≤ 1024 := by have := unhide Hrv; omega
      have hTl' : (T : Int) < (M : Int) := by omega
      obtain ⟨gk, ck, ek, -, -, -, hgk, hkc, hkf⟩ := (unhide HI8).mem.kn.pos (by omega)
      obtain ⟨rfl, eck⟩ : gk = w1.heap.size ∧ M = ck := by cases ek; exact ⟨rfl, rfl⟩
      subst eck
      have hkt := hkc T hTl
      have hkft := hkf T
      obtain ⟨q0, q1, q2, q3, q4, q5⟩ := (unhide HB1).below (unhide HI8).d1
      clear hcr hT iuv hkc hkf ek
      by_cases hm : (T : Int) ∈ S'.map (cdD b)
      · have HM8 := hide ((unhide HMI).1 hm)
        rw [decide_eq_true hm] at hkt
        clear hm
        go_wp2
        go_roundw
        case rel => exact ⟨x + 1, us', S', V', by go_num, (by have := unhide HXK; omega), hgd, (unhide HI8).old hiS (unhide HXK) (unhide HM8) (unhide HNT)⟩
        case measure => simp [intOf]; have := unhide HXK; omega
      · have HM8 : Hid (¬ stp a b (S'.getD i (0, 0)) (x : Int) ∈ S') := fun e => hm ((unhide HMI).2 e)
        rw [decide_eq_false hm] at hkt
        clear hm
        have SK := (unhide HI8).mem.know (gk := w1.heap.size) (ck := M) rfl T
        have HUK := hide (OwnL.keep (unhide HU8) (w' := w8.setCell ⟨w1.heap.size, T, none⟩ (.bool true)) fun b e => Below.heap_setCell _ _ _ _ (by
          have h9 := unhide HUX b e
          intro e2
          exact h9 (.inl (by rw [show b = w1.heap.size from e2]; rfl))))
        have dK : Below w1.heap.size w1 (w8.setCell ⟨w1.heap.size, T, none⟩ (.bool true)) := (unhide HI8).d1.setCell (p := ⟨w1.heap.size, T, none⟩) (Nat.le_refl _) _
        have zK : (w8.setCell ⟨w1.heap.size, T, none⟩ (.bool true)).heap.size = w8.heap.size := by simp
        have RV := RdV.lit (w8.setCell ⟨w1.heap.size, T, none⟩ (.bool true)) 1 (fun _ => Value.slice au (X.length + 1) cu) #[.slice au (X.length + 1) cu] (by unfold maxLen; omega) (by simp [cellsV])
        rw [zK] at RV
        have z18 : w1.heap.size ≤ w8.heap.size := (unhide HI8).d1.size
        have hVl : V'.length ≤ 1048576 := by have := unhide HLV; omega
        have hSl : S'.length ≤ 1048576 := by omega
        have q3K : ((w8.setCell ⟨w1.heap.size, T, none⟩ (.bool true)).cell? ⟨w.heap.size + 1, 3, none⟩) = some (.int .i64 b.n) := (World.cell?_of_block (Below.heap_setCell _ _ _ _ (by show w.heap.size + 1 ≠ w1.heap.size; omega))).trans q3
        go_wp2_with (first | (at_builtin; refine wplV_append3 rfl (.tmp 133) (.tmp 135) rfl w1.heap.size _ V'.length us' rfl (SK.wd.out.alloc _) ⟨w8.heap.size, 0, none⟩ 1 1 (fun _ => .slice au (X.length + 1) cu) rfl RV (by intro i _; exact ⟨_, _, _, rfl⟩) (by omega) (by omega) (by simp; omega) ?_; intro vw' wg hownW hgW haW; have SW := SK.word (OwnL.mono (unhide HUK) (by simp; omega)) (unhide HUX) hownW hgW haW; have dG : Below w1.heap.size w1 wg := (dK.alloc (by simp; omega) _).grown hgW (by simp; omega) (fun k e => (SK.wd.out.lt e).1); have q3g : wg.cell? ⟨w.heap.size + 1, 3, none⟩ = some (.int .i64 b.n) := ((unhide HB1).below dG).p3; obtain ⟨aw', cw'', ew', -, -, -⟩ := hownW.shape; subst ew') | (at_builtin; refine wpl_pushA eInt rfl (.tmp 137) (.tmp 144) rfl w1.heap.size _ (S'.map (cdD b)) rfl (SW.st.alloc _) ⟨wg.heap.size, 0, none⟩ 1 [(T : Int)] rfl (RdL.one _ _) (by simp only [List.length_cons, List.length_nil, List.length_map]; omega) (by simp; have := dG.size; omega) ?_; intro vs' wh hownS hbS hgS hatS; obtain ⟨as2, cs3, es2, -, -, -, -, -⟩ := hownS.shape; rw [show (S'.map (cdD b) ++ [(T : Int)]).length = S'.length + 1 by simp] at es2; subst es2))
        go_roundw
        case rel =>
          have SH := SW.at hownS hgS hatS
          rw [unhide HXX] at SH
          have dH : Below w1.heap.size w1 wh := (dG.alloc dG.size _).trans hbS
          refine ⟨x + 1, joinV V'.length us' (fun _ => .slice au ((V'.getD i []).length + 1) cu), S' ++ [stp a b (S'.getD i (0, 0)) (x : Int)], V' ++ [V'.getD i [] ++ [(x : Int)]], by go_num, (by have := unhide HXK; omega), ⟨?_, ?_⟩, (unhide HI8).new hiS (unhide HXK) (unhide HM8) (unhide HNT) (unhide HTT) SH dH⟩
          · rw [List.length_append]; omega
          · rw [gd_left _ hiS]; exact (unhide hgd).2
        case measure => simp [intOf]; have := unhide HXK; omega
end Go.Proofs.Ytagoilabphmdfaa

/-
  What the reference's Separate and Apart return.
-/
namespace Go.Proofs.Ytagoilabphmdfaa
open Go.RowKit

/-- Separate's error. -/
def seE (a b : Mc) : Int := if (mchV a).2 ≠ 0 then (mchV a).2 else if (mchV b).2 ≠ 0 then (mchV b).2 else if a.kind ≠ b.kind then 30 else if a.k ≠ b.k then 1 else if a.o ≠ b.o then 33 else 0
theorem seE_a {a b : Mc} (h : (mchV a).2 ≠ 0) : seE a b = (mchV a).2 := by unfold seE; rw [if_pos h]
theorem seE_b {a b : Mc} (h : (mchV a).2 = 0) (h1 : (mchV b).2 ≠ 0) : seE a b = (mchV b).2 := by unfold seE; rw [if_neg (by simp [h]), if_pos h1]
theorem seE_kd {a b : Mc} (h : (mchV a).2 = 0) (h1 : (mchV b).2 = 0) (h2 : a.kind ≠ b.kind) : seE a b = 30 := by unfold seE; rw [if_neg (by simp [h]), if_neg (by simp [h1]), if_pos h2]
theorem seE_k {a b : Mc} (h : (mchV a).2 = 0) (h1 : (mchV b).2 = 0) (h2 : a.kind = b.kind) (h3 : a.k ≠ b.k) : seE a b = 1 := by unfold seE; rw [if_neg (by simp [h]), if_neg (by simp [h1]), if_neg (by simp [h2]), if_pos h3]
theorem seE_o {a b : Mc} (h : (mchV a).2 = 0) (h1 : (mchV b).2 = 0) (h2 : a.kind = b.kind) (h3 : a.k = b.k) (h4 : a.o ≠ b.o) : seE a b = 33 := by unfold seE; rw [if_neg (by simp [h]), if_neg (by simp [h1]), if_neg (by simp [h2]), if_neg (by simp [h3]), if_pos h4]
theorem seE_ok {a b : Mc} (h : (mchV a).2 = 0) (h1 : (mchV b).2 = 0) (h2 : a.kind = b.kind) (h3 : a.k = b.k) (h4 : a.o = b.o) : seE a b = 0 := by unfold seE; rw [if_neg (by simp [h]), if_neg (by simp [h1]), if_neg (by simp [h2]), if_neg (by simp [h3]), if_neg (by simp [h4])]
theorem seE_zero {a b : Mc} (e : seE a b = 0) : (mchV a).2 = 0 ∧ (mchV b).2 = 0 ∧ a.kind = b.kind ∧ a.k = b.k ∧ a.o = b.o := by
  by_cases h : (mchV a).2 = 0
  · by_cases h1 : (mchV b).2 = 0
    · by_cases h2 : a.kind = b.kind
      · by_cases h3 : a.k = b.k
        · by_cases h4 : a.o = b.o
          · exact ⟨h, h1, h2, h3, h4⟩
          · rw [seE_o h h1 h2 h3 h4] at e; cases e
        · rw [seE_k h h1 h2 h3] at e; cases e
      · rw [seE_kd h h1 h2] at e; cases e
    · rw [seE_b h h1] at e; exact absurd e h1
  · rw [seE_a h] at e; exact absurd e h
/-- What Separate finds. -/
def SeR (a b : Mc) (o : Option (List Int)) : Prop := (seE a b = 0 → SepR a b 0 0 o) ∧ (seE a b ≠ 0 → o = none)
theorem se_ex (a b : Mc) : ∃ o, SeR a b o := by
  by_cases h : seE a b = 0
  · obtain ⟨o, ho⟩ := sep_ex a b 0 0
    exact ⟨o, fun _ => ho, fun c => absurd h c⟩
  · exact ⟨none, fun c => absurd c h, fun _ => rfl⟩
/-- Apart's error. -/
def apE (m : Mc) (s t : Int) : Int := if (mchV m).2 ≠ 0 then (mchV m).2 else if s < 0 ∨ m.n ≤ s ∨ t < 0 ∨ m.n ≤ t then 32 else 0
theorem apE_m {m : Mc} {s t : Int} (h : (mchV m).2 ≠ 0) : apE m s t = (mchV m).2 := by unfold apE; rw [if_pos h]
theorem apE_s {m : Mc} {s t : Int} (h : (mchV m).2 = 0) (h1 : s < 0 ∨ m.n ≤ s ∨ t < 0 ∨ m.n ≤ t) : apE m s t = 32 := by unfold apE; rw [if_neg (by simp [h]), if_pos h1]
theorem apE_ok {m : Mc} {s t : Int} (h : (mchV m).2 = 0) (s0 : 0 ≤ s) (s1 : s < m.n) (t0 : 0 ≤ t) (t1 : t < m.n) : apE m s t = 0 := by unfold apE; rw [if_neg (by simp [h]), if_neg (by omega)]
theorem apE_zero {m : Mc} {s t : Int} (e : apE m s t = 0) : (mchV m).2 = 0 ∧ 0 ≤ s ∧ s < m.n ∧ 0 ≤ t ∧ t < m.n := by
  by_cases h : (mchV m).2 = 0
  · by_cases h1 : s < 0 ∨ m.n ≤ s ∨ t < 0 ∨ m.n ≤ t
    · rw [apE_s h h1] at e; cases e
    · exact ⟨h, by omega, by omega, by omega, by omega⟩
  · rw [apE_m h] at e; exact absurd e h
/-- What Apart finds. -/
def ApR (m : Mc) (s t : Int) (o : Option (List Int)) : Prop := (apE m s t = 0 → SepR m m s t o) ∧ (apE m s t ≠ 0 → o = none)
theorem ap_ex (m : Mc) (s t : Int) : ∃ o, ApR m s t o := by
  by_cases h : apE m s t = 0
  · obtain ⟨o, ho⟩ := sep_ex m m s t
    exact ⟨o, fun _ => ho, fun c => absurd h c⟩
  · exact ⟨none, fun c => absurd c h, fun _ => rfl⟩
/-- What both leave. -/
def SePost (o : Option (List Int)) (E : Int) (w : World) (e : Ending) (w' : World) : Prop :=
  ∃ v, e = .returned (.tuple #[v, .bool o.isSome, .int .i64 E]) ∧ OwnL .i64 3 w' w.heap.size v (o.getD []) ∧ Below w.heap.size w w'
theorem ne_bne' {x y : Int} (h : x ≠ y) : (x != y) = true := bne_iff_ne.2 h
theorem eq_bne' {x y : Int} (h : x = y) : (x != y) = false := by simp [h]

set_option maxRecDepth 100000 in
set_option maxHeartbeats 2000000 in
theorem rseparate_any (a b : Mc) (a1 : Option Addr) (c1 : Nat) (a2 : Option Addr) (c2 : Nat) (d1 : Option Addr) (e1 : Nat) (d2 : Option Addr) (e2 : Nat) (w : World) (o : Option (List Int)) (h1 : RdL .i64 w a1 a.nx) (h2 : RdL .i64 w a2 a.out) (g1 : RdL .i64 w d1 b.nx) (g2 : RdL .i64 w d2 b.out) (ln : a.nx.length ≤ maxLen) (lo : a.out.length ≤ maxLen) (kn : b.nx.length ≤ maxLen) (ko : b.out.length ≤ maxLen) (ho : SeR a b o) :
    Calls Try.prog 19 #[mval a a1 c1 a2 c2, mval b d1 e1 d2 e2] w fun e w' => SePost o (seE a b) w e w' := by
  obtain ⟨w0, hw0⟩ : ∃ w0, w0 = (w.alloc (.cells #[.int .i64 a.kind, .int .i64 a.k, .int .i64 a.o, .int .i64 a.n, .slice a1 a.nx.length c1, .slice a2 a.out.length c2] 24)).alloc (.cells #[.int .i64 b.kind, .int .i64 b.k, .int .i64 b.o, .int .i64 b.n, .slice d1 b.nx.length e1, .slice d2 b.out.length e2] 24) := ⟨_, rfl⟩
  have b0 : Below w.heap.size w w0 := by rw [hw0]; exact bstep (ballo _ _) (ballo _ _)
  have A0 : Box w0 w.heap.size a a1 c1 a2 c2 := by rw [hw0]; exact (Box.alloc w a a1 c1 a2 c2 24).below (ballo _ _)
  have B0 : Box w0 (w.heap.size + 1) b d1 e1 d2 e2 := by
    have := Box.alloc (w.alloc (.cells #[.int .i64 a.kind, .int .i64 a.k, .int .i64 a.o, .int .i64 a.n, .slice a1 a.nx.length c1, .slice a2 a.out.length c2] 24)) b d1 e1 d2 e2 24
    rw [hw0]
    simp only [World.size_alloc] at this
    exact this
  have HC := hide (rmcheck_any a a1 c1 a2 c2 w0 (h1.below b0) (h2.below b0) ln lo)
  unfold mval at HC ⊢
  have HA := hide A0
  have HB := hide B0
  have HW : Hid (Below w.heap.size w w0) := b0
  have HO := hide ho
  clear A0 B0 b0 ho
  go_enter Try.func19, Try.ntmps19
  go_wp2_with fail
  rw [← hw0]
  refine (unhide HC).mono ?_
  rintro e w1 ⟨rfl, hb1⟩
  have HW1 := hide (bstep (unhide HW) hb1)
  have HA1 := hide ((unhide HA).below hb1)
  have HB1 := hide ((unhide HB).below hb1)
  clear HC HA HB HW hw0 hb1
  by_cases hz : (mchV a).2 = 0
  rotate_left
  · have tz := ne_bne' hz
    have HE : Hid (o = none) := (unhide HO).2 (by rw [seE_a hz]; exact hz)
    have HS := hide (seE_a (b := b) hz)
    clear hz
    generalize (mchV a).2 = E at *
    go_wp2
    go_ret3
    rw [unhide HE, unhide HS]
    exact ⟨_, rfl, OwnL.nil _ _ _ _, unhide HW1⟩
  have HZ := hide hz
  obtain ⟨q0, q1, q2, q3, q4, q5⟩ := unhide HB1
  have HC := hide (rmcheck_any b d1 e1 d2 e2 w1 (g1.below (unhide HW1)) (g2.below (unhide HW1)) kn ko)
  unfold mval at HC
  rw [hz]
  clear hz
  go_wp2_with fail
  refine (unhide HC).mono ?_
  rintro e w2 ⟨rfl, hb2⟩
  have HW2 := hide (bstep (unhide HW1) hb2)
  have HA2 := hide ((unhide HA1).below hb2)
  have HB2 := hide ((unhide HB1).below hb2)
  clear q0 q1 q2 q3 q4 q5 HC HA1 HB1 HW1 hb2
  by_cases hz : (mchV b).2 = 0
  rotate_left
  · have tz := ne_bne' hz
    have HE : Hid (o = none) := (unhide HO).2 (by rw [seE_b (unhide HZ) hz]; exact hz)
    have HS := hide (seE_b (unhide HZ) hz)
    clear hz
    generalize (mchV b).2 = E at *
    go_wp2
    go_ret3
    rw [unhide HE, unhide HS]
    exact ⟨_, rfl, OwnL.nil _ _ _ _, unhide HW2⟩
  have HY := hide hz
  rw [hz]
  clear hz
  obtain ⟨p0, p1, p2, p3, p4, p5⟩ := unhide HA2
  obtain ⟨q0, q1, q2, q3, q4, q5⟩ := unhide HB2
  by_cases hd : a.kind = b.kind
  rotate_left
  · have td := ne_bne' hd
    have HS := hide (seE_kd (unhide HZ) (unhide HY) hd)
    have HE : Hid (o = none) := (unhide HO).2 (by rw [unhide HS]; decide)
    clear hd
    go_wp2
    go_ret3
    rw [unhide HE, unhide HS]
    exact ⟨_, rfl, OwnL.nil _ _ _ _, unhide HW2⟩
  have td := eq_bne' hd
  have HD := hide hd
  clear hd
  by_cases hk : a.k = b.k
  rotate_left
  · have tk := ne_bne' hk
    have HS := hide (seE_k (unhide HZ) (unhide HY) (unhide HD) hk)
    have HE : Hid (o = none) := (unhide HO).2 (by rw [unhide HS]; decide)
    clear hk
    go_wp2
    go_ret3
    rw [unhide HE, unhide HS]
    exact ⟨_, rfl, OwnL.nil _ _ _ _, unhide HW2⟩
  have tk := eq_bne' hk
  have HK := hide hk
  clear hk
  by_cases hoo : a.o = b.o
  rotate_left
  · have to := ne_bne' hoo
    have HS := hide (seE_o (unhide HZ) (unhide HY) (unhide HD) (unhide HK) hoo)
    have HE : Hid (o = none) := (unhide HO).2 (by rw [unhide HS]; decide)
    clear hoo
    go_wp2
    go_ret3
    rw [unhide HE, unhide HS]
    exact ⟨_, rfl, OwnL.nil _ _ _ _, unhide HW2⟩
  have to := eq_bne' hoo
  have HS := hide (seE_ok (unhide HZ) (unhide HY) (unhide HD) (unhide HK) hoo)
  clear hoo
  have R := right_of (unhide HZ)
  have Q := right_of (unhide HY)
  have HC := hide (rsearch_any a b a1 c1 a2 c2 d1 e1 d2 e2 0 0 w2 o R Q (unhide HD).symm (unhide HK).symm (h1.below (unhide HW2)) (h2.below (unhide HW2)) (g1.below (unhide HW2)) (g2.below (unhide HW2)) (by have := R.n0; omega) (by have := Q.n0; omega) ((unhide HO).1 (unhide HS)))
  unfold mval at HC
  clear R Q
  go_wp2_with fail
  refine (unhide HC).mono ?_
  rintro e w3 ⟨v, rfl, hv, hb3⟩
  have HV := hide hv
  have HB3 := hide (bstep (unhide HW2) hb3)
  have HZ3 := hide (unhide HW2).size
  obtain ⟨av, cv, ev, -, -, -, -, -⟩ := hv.shape
  clear hv hb3 HC p0 p1 p2 p3 p4 p5 q0 q1 q2 q3 q4 q5
  subst ev
  go_wp2
  go_ret3
  rw [unhide HS]
  exact ⟨_, rfl, OwnL.mono (unhide HV) (unhide HZ3), unhide HB3⟩

end Go.Proofs.Ytagoilabphmdfaa
