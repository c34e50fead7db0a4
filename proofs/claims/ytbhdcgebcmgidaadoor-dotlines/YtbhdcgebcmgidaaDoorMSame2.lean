/-
  Whether two tables of one kind are the same: the reference's Same.
-/
import Derived.Test.YtbhdcgebcmgidaaDoorK6
namespace Go.Proofs.YtbhdcgebcmgidaaDoor
open Go.RowKit

def sameM (a b : Mc) : Bool := decide (a.n = b.n) && (decide (a.nx = b.nx) && decide (a.out = b.out))
theorem sameM_iff {a b : Mc} (h1 : a.kind = b.kind) (h2 : a.k = b.k) (h3 : a.o = b.o) : sameM a b = true ↔ a = b := by
  unfold sameM
  rw [Bool.and_eq_true, Bool.and_eq_true, decide_eq_true_eq, decide_eq_true_eq, decide_eq_true_eq]
  constructor
  · rintro ⟨e1, e2, e3⟩
    cases a; cases b; simp_all
  · rintro rfl; exact ⟨rfl, rfl, rfl⟩

theorem msame2_any (a b : Mc) (a1 : Option Addr) (c1 : Nat) (a2 : Option Addr) (c2 : Nat) (d1 : Option Addr) (e1 : Nat) (d2 : Option Addr) (e2 : Nat) (w : World) (h1 : RdL .i64 w a1 a.nx) (h2 : RdL .i64 w a2 a.out) (g1 : RdL .i64 w d1 b.nx) (g2 : RdL .i64 w d2 b.out) (hn : a.nx.length ≤ maxLen) (ho : a.out.length ≤ maxLen)
    (hkd : a.kind = b.kind) (hk : a.k = b.k) (ho' : a.o = b.o) :
    Calls Tryd.prog 15 #[mval a a1 c1 a2 c2, mval b d1 e1 d2 e2] w fun e w' => e = .returned (.bool (sameM a b)) ∧ Below w.heap.size w w' := by
  unfold mval
  have B0 := (Box.alloc w a a1 c1 a2 c2 24).below (ballo _ (.cells #[.int .i64 b.kind, .int .i64 b.k, .int .i64 b.o, .int .i64 b.n, .slice d1 b.nx.length e1, .slice d2 b.out.length e2] 24))
  have C0 := Box.alloc (w.alloc (.cells #[.int .i64 a.kind, .int .i64 a.k, .int .i64 a.o, .int .i64 a.n, .slice a1 a.nx.length c1, .slice a2 a.out.length c2] 24)) b d1 e1 d2 e2 24
  have b0 := bstep (ballo w (.cells #[.int .i64 a.kind, .int .i64 a.k, .int .i64 a.o, .int .i64 a.n, .slice a1 a.nx.length c1, .slice a2 a.out.length c2] 24)) (ballo _ (.cells #[.int .i64 b.kind, .int .i64 b.k, .int .i64 b.o, .int .i64 b.n, .slice d1 b.nx.length e1, .slice d2 b.out.length e2] 24))
  have k0 : (a.kind == b.kind) = true := by simpa using hkd
  have k1 : (a.k == b.k) = true := by simpa using hk
  have k2 : (a.o == b.o) = true := by simpa using ho'
  clear hkd hk ho'
  by_cases hne : a.n = b.n
  rotate_left
  · have k3 : (a.n == b.n) = false := by simpa using hne
    have HE : Hid (sameM a b = false) := by show _ = _; unfold sameM; rw [decide_eq_false hne]; rfl
    clear hne
    go_enter Tryd.func15, Tryd.ntmps15
    go_wp2
    go_ret
    exact ⟨ret_bool (unhide HE).symm, b0⟩
  have k3 : (a.n == b.n) = true := by simpa using hne
  by_cases hx : a.nx = b.nx
  rotate_left
  · have HE : Hid (sameM a b = false) := by show _ = _; unfold sameM; rw [decide_eq_false hx]; simp
    have HX := hide (decide_eq_false hx)
    clear hne hx
    go_enter Tryd.func15, Tryd.ntmps15
    go_wp2_with fail
    refine (same_list a1 d1 c1 e1 a.nx b.nx _ (h1.below b0) (g1.below b0) hn).mono ?_
    rw [unhide HX]
    rintro e w1 ⟨rfl, hb1⟩
    have b1 := bstep b0 hb1
    clear hb1
    go_wp2
    go_ret
    exact ⟨ret_bool (unhide HE).symm, b1⟩
  have HE : Hid (sameM a b = decide (a.out = b.out)) := by show _ = _; unfold sameM; rw [decide_eq_true hne, decide_eq_true hx]; rfl
  have HX := hide (decide_eq_true hx)
  clear hne hx
  go_enter Tryd.func15, Tryd.ntmps15
  go_wp2_with fail
  refine (same_list a1 d1 c1 e1 a.nx b.nx _ (h1.below b0) (g1.below b0) hn).mono ?_
  rw [unhide HX]
  rintro e w1 ⟨rfl, hb1⟩
  have b1 := bstep b0 hb1
  obtain ⟨p0, p1, p2, p3, p4, p5⟩ := B0.below hb1
  obtain ⟨q0, q1, q2, q3, q4, q5⟩ := C0.below hb1
  clear hb1 B0 C0
  simp only [World.size_alloc] at q0 q1 q2 q3 q4 q5
  go_wp2_with fail
  refine (same_list a2 d2 c2 e2 a.out b.out w1 (h2.below b1) (g2.below b1) ho).mono ?_
  rintro e w2 ⟨rfl, hb2⟩
  have b2 := bstep b1 hb2
  clear hb2
  generalize decide (a.out = b.out) = z at *
  go_wp2
  go_ret
  exact ⟨ret_bool (unhide HE).symm, b2⟩

end Go.Proofs.YtbhdcgebcmgidaaDoor
