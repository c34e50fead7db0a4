/-
  What the library's slices.Sorted(slices.Values(s)) returns, and the program's Members.
-/
import Derived.Test.YtnakadlhafggkaaQVals
import Derived.Test.YtnakadlhafggkaaQApi
namespace Go.Proofs.Ytnakadlhafggkaa
open Go.RowKit Go.Maps Go.Sort Go.Shelf

set_option maxRecDepth 100000 in
set_option maxHeartbeats 1000000 in
theorem valsCollect (Bm : Nat) (a : Option Addr) (c : Nat) (l : List Int) (w : World) (hBm : Bm < w.heap.size) (hm : w.cell? ⟨Bm, 0, none⟩ = some (.slice a l.length c)) (hr : RdL .i64 w a l) (hl : l.length ≤ 1000000) :
    Calls Try.prog 48 #[.func (.func 50) #[] #[.pointer (some ⟨Bm, 0, none⟩)]] w fun e w' => ∃ v, e = .returned v ∧ w'.ownsRow w.heap.size 3 1 v l.length (l.map encZ) ∧ (v = .slice none 0 0 ↔ l = []) ∧ Below w.heap.size w w' := by
  have VA := (callsIn_wide (n := 3)).1 (valsAppend Bm a c l w hBm hm hr hl)
  clear hm hr
  go_enter Try.func48, Try.ntmps48
  go_wp2_with fail
  refine VA.mono ?_
  rintro e w1 ⟨v, rfl, h1, h2, h3⟩
  go_wp2
  go_ret
  exact ⟨v, rfl, h1, h2, h3⟩

/-- The numbers of a list, in order. -/
def srt (l : List Int) : List Int := l.mergeSort (fun x y => decide (x ≤ y))
theorem srt_len (l : List Int) : (srt l).length = l.length := by unfold srt; simp

set_option maxRecDepth 100000 in
set_option maxHeartbeats 1000000 in
theorem sortedVals_any (Bm : Nat) (a : Option Addr) (c : Nat) (l : List Int) (w : World) (hBm : Bm < w.heap.size) (hm : w.cell? ⟨Bm, 0, none⟩ = some (.slice a l.length c)) (hr : RdL .i64 w a l) (hl : l.length ≤ 1000000) :
    Calls Try.prog 34 #[.func (.func 50) #[] #[.pointer (some ⟨Bm, 0, none⟩)]] w fun e w' => ∃ v, e = .returned v ∧ OwnL .i64 3 w' w.heap.size v (srt l) ∧ Below w.heap.size w w' := by
  have VC := valsCollect Bm a c l w hBm hm hr hl
  have S1 := fun blk off cap ss W hH hblk hsz => AnyM.slices_Sort_int sortA blk off cap ss W hH hblk hsz
  have S2 := fun p cap W => AnyM.slices_Sort_int_none sortA p cap W
  have HS1 := hide S1
  have HS2 := hide S2
  clear hm hr S1 S2
  go_enter Try.func34, Try.ntmps34
  go_wp2_with fail
  refine VC.mono ?_
  rintro e W ⟨v, rfl, hrow, hnil, hb⟩
  clear VC
  rcases hrow.2 with ⟨rfl, hz⟩ | ⟨g, cap, cur, rfl, hbase, hgb, r1, r2, r3, r4⟩
  · have e0 : l = [] := List.length_eq_zero_iff.1 hz
    subst e0
    clear hrow hnil hz
    go_wp2_with fail
    refine (unhide HS2 none 0 W).mono ?_
    rintro e w' ⟨rfl, hw'⟩
    subst w'
    go_wp2
    go_ret
    refine ⟨.slice none 0 0, rfl, ?_, hb⟩
    rw [show srt [] = [] by simp [srt]]
    exact OwnL.nil _ _ _ _
  · have hH : Holds encZ W g 0 l.toArray := holds_of_block_i hgb (by simpa using r4)
    have hgl : g < W.heap.size := (Array.getElem?_eq_some_iff.1 hgb).1
    have HS := hide (unhide HS1 g 0 cap l W hH hgl (by omega))
    clear hH hrow hnil r4 HS1 HS2
    go_wp2_with fail
    refine (unhide HS).mono ?_
    rintro e w' ⟨rfl, nn, os, rfl⟩
    clear HS
    have hown := ownsRow_sorted_i (n := nn) (os := os) (ss := l) (ts := srt l) (srt_len l) hbase hgb r1 r2 r3
    have hb2 : Below w.heap.size w (grow (putRow encZ (Sort.ahead W nn) g 0 (srt l).toArray) os) := hb.grown (grownBy_sorted_i _) hb.size (fun j hj => by cases hj; exact hbase)
    have HOW := hide hown
    have HB2 := hide hb2
    clear hown hb2
    go_wp2
    go_ret
    refine ⟨_, rfl, ?_, unhide HB2⟩
    unfold OwnL
    rw [srt_len]
    exact unhide HOW

/-- What is in class k, in order. -/
def mems (n : Nat) (c : Nat → Nat) (k : Nat) : List Int := ((List.range n).filter fun x => decide (c x = k)).map fun x : Nat => (x : Int)
theorem mems_mem {n k : Nat} {c : Nat → Nat} {z : Int} : z ∈ mems n c k ↔ ∃ x : Nat, z = (x : Int) ∧ x < n ∧ c x = k := by
  unfold mems
  rw [List.mem_map]
  constructor
  · rintro ⟨x, hx, rfl⟩
    rw [List.mem_filter, List.mem_range] at hx
    exact ⟨x, rfl, hx.1, of_decide_eq_true hx.2⟩
  · rintro ⟨x, rfl, h1, h2⟩
    exact ⟨x, by rw [List.mem_filter, List.mem_range]; exact ⟨h1, decide_eq_true h2⟩, rfl⟩
theorem mems_sorted (n : Nat) (c : Nat → Nat) (k : Nat) : (mems n c k).Pairwise (· < ·) := by
  unfold mems
  refine List.pairwise_map.2 ?_
  refine (List.Pairwise.filter _ (List.pairwise_lt_range (n := n))).imp ?_
  intro a b h; omega
theorem mems_len (n : Nat) (c : Nat → Nat) (k : Nat) : (mems n c k).length ≤ n := by
  unfold mems
  rw [List.length_map]
  have := List.length_filter_le (fun x => decide (c x = k)) (List.range n)
  rwa [List.length_range] at this
/-- The row's piece. -/
def pieceL (r : Nat → Nat) (b m : Nat) : List Int := (List.range m).map fun t => ((r (b + t) : Nat) : Int)
theorem pieceL_len (r : Nat → Nat) (b m : Nat) : (pieceL r b m).length = m := by simp [pieceL]
theorem pieceL_at {r : Nat → Nat} {b m t : Nat} (h : t < m) : (pieceL r b m).getD t 0 = ((r (b + t) : Nat) : Int) := by simp [pieceL, List.getD, h]
theorem piece_srt {n : Nat} {s : St} (I : PI n s) {k : Nat} (hk : k < s.K) : srt (pieceL s.r (s.b k) (s.e k - s.b k)) = mems n s.c k := by
  obtain ⟨k1, k2⟩ := I.sp k hk
  refine sort_is ((List.perm_ext_iff_of_nodup ?_ ?_).2 fun z => ?_) (mems_sorted n s.c k)
  · unfold pieceL
    refine List.pairwise_map.2 (List.Pairwise.imp_of_mem ?_ (List.nodup_range (n := s.e k - s.b k)))
    intro i j hi hj hne e
    have hi := List.mem_range.1 hi
    have hj := List.mem_range.1 hj
    have h1 := (I.rr (s.b k + i) (by omega)).2
    have h2 := (I.rr (s.b k + j) (by omega)).2
    have e2 : s.r (s.b k + i) = s.r (s.b k + j) := by omega
    rw [e2, h2] at h1
    exact hne (by omega)
  · exact (mems_sorted n s.c k).imp fun h e => by omega
  · rw [mems_mem]
    unfold pieceL
    rw [List.mem_map]
    constructor
    · rintro ⟨t, ht, rfl⟩
      have ht := List.mem_range.1 ht
      exact ⟨_, rfl, (I.rr (s.b k + t) (by omega)).1, I.off k hk (s.b k + t) (by omega) (by omega)⟩
    · rintro ⟨x, rfl, hx, hc⟩
      have h1 := I.inn x hx
      rw [hc] at h1
      refine ⟨s.p x - s.b k, List.mem_range.2 (by omega), ?_⟩
      rw [show s.b k + (s.p x - s.b k) = s.p x by omega, (I.pq x hx).2]

section
variable {w : World} {p : Pp} {gs cap : Nat} {s : St}
set_option maxRecDepth 100000 in
set_option maxHeartbeats 1000000 in
theorem members_ok (h : PtS w p gs cap s) (I : PI p.n s) (hn : p.n ≤ 65536) {k : Nat} (hk : k < s.K) :
    Calls Try.prog 21 #[.pointer (some ⟨p.b, 0, none⟩), .int .i64 (k : Nat)] w fun e w' => ∃ v, e = .returned (.tuple #[v, .int .i64 0]) ∧ OwnL .i64 3 w' w.heap.size v (mems p.n s.c k) ∧ Below w.heap.size w w' := by
  obtain ⟨k1, k2⟩ := I.sp k hk
  have hKn := I.Kn
  have c3 := PtAt.c3 h
  have SP := span_any h (c := k) (x := s.b k) (y := s.e k) hk rfl rfl k1 k2
  have hrd : RdL .i64 w (some ⟨p.gr, s.b k, none⟩) (pieceL s.r (s.b k) (s.e k - s.b k)) := .inr ⟨p.gr, s.b k, rfl, fun i hi => by
    rw [pieceL_len] at hi
    rw [pieceL_at hi, (PtAt.row h (i := s.b k + i) (by omega)).1, tab_at _ (by omega)]⟩
  have he := piece_srt I hk
  have hlen := pieceL_len s.r (s.b k) (s.e k - s.b k)
  have HRD := hide hrd
  have HE := hide he
  have HL := hide hlen
  have HSP := hide SP
  clear h I hrd he hlen SP
  have hk0 : ¬ ((k : Int) < 0) := by omega
  have hk1 : (k : Int) < (s.K : Int) := by omega
  go_enter Try.func21, Try.ntmps21
  go_wp2_with fail
  refine (unhide HSP).mono ?_
  rintro e w1 ⟨rfl, q, rfl⟩
  clear HSP
  go_wp2_with fail
  refine (values_any _ _ _ _).mono ?_
  rintro e w2 ⟨rfl, rfl⟩
  go_wp2_with fail
  have b2 : Below w.heap.size w ((w.drewN q).alloc (.cells #[.slice (some ⟨p.gr, s.b k, none⟩) (s.e k - s.b k) (p.n - s.b k)] 29)) := (below_drewN (Below.refl _ w) q).alloc (Nat.le_refl _) _
  have V := sortedVals_any w.heap.size (some ⟨p.gr, s.b k, none⟩) (p.n - s.b k) (pieceL s.r (s.b k) (s.e k - s.b k)) ((w.drewN q).alloc (.cells #[.slice (some ⟨p.gr, s.b k, none⟩) (s.e k - s.b k) (p.n - s.b k)] 29)) (by rw [World.size_alloc]; exact Nat.lt_succ_self _) (by rw [unhide HL]; exact World.cell?_alloc_at (w := w.drewN q) _ _ _ 0 rfl) ((unhide HRD).below b2) (by rw [unhide HL]; omega)
  rw [unhide HE] at V
  have HB2 := hide b2
  refine V.mono ?_
  rintro e w3 ⟨v, rfl, hv, hb3⟩
  have hz := b2.size
  have HV := hide (hv.mono hz)
  have HB3 := hide (b2.trans (hb3.mono hz))
  clear V hv hb3 b2 HRD HE HL HB2 hz
  go_wp2
  go_ret2
  exact ⟨v, rfl, unhide HV, unhide HB3⟩
theorem members_bad (h : PtS w p gs cap s) (k : Int) (hk : ¬ (0 ≤ k ∧ k < (s.K : Int))) :
    Calls Try.prog 21 #[.pointer (some ⟨p.b, 0, none⟩), .int .i64 k] w fun e w' => e = .returned (.tuple #[.slice none 0 0, .int .i64 1]) ∧ w' = w := by
  have c3 := PtAt.c3 h
  clear h
  by_cases h0 : k < 0
  · go_enter Try.func21, Try.ntmps21
    go_wp2
    go_ret2
    exact ⟨rfl, rfl⟩
  · have h1 : (s.K : Int) ≤ k := by omega
    go_enter Try.func21, Try.ntmps21
    go_wp2
    go_ret2
    exact ⟨rfl, rfl⟩
end
end Go.Proofs.Ytnakadlhafggkaa
