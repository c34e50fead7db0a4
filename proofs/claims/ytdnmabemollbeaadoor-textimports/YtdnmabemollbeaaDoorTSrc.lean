/-
  The program's reader: its object in memory, skip and number.
-/
import Derived.Test.YtdnmabemollbeaaDoorTNum
import Derived.Test.YtdnmabemollbeaaDoorTStr
namespace Go.Proofs.YtdnmabemollbeaaDoor
open Go.RowKit

/-- The reader's object: the bytes b, of which i have been read. -/
structure Sr (w : World) (sb : Nat) (a : Option Addr) (c : Nat) (b : List UInt8) (i : Nat) : Prop where
  p0 : w.cell? ⟨sb, 0, none⟩ = some (.slice a b.length c)
  p1 : w.cell? ⟨sb, 1, none⟩ = some (.int .i64 (i : Int))
  fz : w.frozen? ⟨sb, 1, none⟩ = false
  rd : RdL .u8 w a (zs b)
  le : i ≤ b.length
  off : 0 < b.length → ∀ x, a = some x → x.block ≠ sb
/-- What is wrong: an error and its place. -/
def flt (e : Int) (p : Nat) : Value := .iface 69 (.agg #[.int .i64 e, .int .i64 (p : Int)])

theorem Sr.lt {w : World} {sb : Nat} {a : Option Addr} {c : Nat} {b : List UInt8} {i : Nat} (h : Sr w sb a c b i) : sb < w.heap.size := World.block_lt_of_cell? w _ h.p0
theorem RdL.set {q : IntKind} {w : World} {a : Option Addr} {l : List Int} (h : RdL q w a l) {p : Addr} (hp : 0 < l.length → ∀ x, a = some x → x.block ≠ p.block) (u : Value) : RdL q (w.setCell p u) a l := by
  rcases h with h | ⟨b, off, rfl, hc⟩
  · exact .inl h
  · by_cases h0 : l.length = 0
    · exact .inl h0
    · refine .inr ⟨b, off, rfl, fun i hi => ?_⟩
      rw [World.cell?_setCell_other _ _ _ _ (by intro e; exact hp (by omega) _ rfl (by rw [e]))]
      exact hc i hi
theorem Sr.set {w : World} {sb : Nat} {a : Option Addr} {c : Nat} {b : List UInt8} {i : Nat} (h : Sr w sb a c b i) {j : Nat} (hj : j ≤ b.length) : Sr (w.setCell ⟨sb, 1, none⟩ (.int .i64 (j : Int))) sb a c b j :=
  ⟨by rw [World.cell?_setCell_other _ _ _ _ (by intro e; simp at e)]; exact h.p0, by rw [World.cell?_setCell_same _ _ _ h.p1], by simpa using h.fz, h.rd.set (fun h0 => h.off (by rwa [zs_len] at h0)) _, hj, h.off⟩
theorem Sr.drewN {w : World} {sb : Nat} {a : Option Addr} {c : Nat} {b : List UInt8} {i : Nat} (h : Sr w sb a c b i) (n : Nat) : Sr (w.drewN n) sb a c b i :=
  ⟨by simpa using h.p0, by simpa using h.p1, by simpa using h.fz, h.rd.below (below_drewN (Below.refl _ _) n), h.le, h.off⟩
theorem gr_refl (w : World) (r : Option Nat) : w.grownBy w r := ⟨rfl, rfl, rfl, Nat.le_refl _, fun _ _ _ => rfl⟩
theorem gr_drewN {w w' : World} {r : Option Nat} (h : w.grownBy w' r) (n : Nat) : w.grownBy (w'.drewN n) r := by
  have hb := below_drewN (Below.refl w'.heap.size w') n
  exact ⟨hb.os.trans h.os, hb.tape.trans h.tape, hb.output.trans h.output, Nat.le_trans h.size hb.size, fun i hi hne => (hb.block i (Nat.lt_of_lt_of_le hi h.size)).trans (h.block i hi hne)⟩
theorem gr_set {w w' : World} {sb : Nat} (h : w.grownBy w' (some sb)) (k : Nat) (u : Value) : w.grownBy (w'.setCell ⟨sb, k, none⟩ u) (some sb) :=
  ⟨h.os, h.tape, h.output, by simpa using h.size, fun i hi hne => (Below.heap_setCell w' _ u i (fun e => hne (by rw [e]))).trans (h.block i hi hne)⟩

/-- The bytes that must stand there, one by one. -/
theorem skp_on {b : List UInt8} {i t : Nat} {s : List UInt8} (ht : t < s.length) (h : b[i]? = some (s.getD t 0)) : skp b i (s.drop t) = skp b (i + 1) (s.drop (t + 1)) := by
  have e : s.drop t = s.getD t 0 :: s.drop (t + 1) := by rw [List.drop_eq_getElem_cons ht]; simp [ht]
  rw [e, skp, if_pos h]
theorem skp_no {b : List UInt8} {i t : Nat} {s : List UInt8} (ht : t < s.length) (h : b[i]? ≠ some (s.getD t 0)) : skp b i (s.drop t) = .error i := by
  have e : s.drop t = s.getD t 0 :: s.drop (t + 1) := by rw [List.drop_eq_getElem_cons ht]; simp [ht]
  rw [e, skp, if_neg h]

theorem str_at (s : List UInt8) {t : Nat} (ht : t < s.length) (hp : t < (⟨s.toArray⟩ : ByteArray).size) {x : UInt8} (hx : x = s.getD t 0) : (⟨s.toArray⟩ : ByteArray)[t]'hp = x := by
  have e : s.getD t 0 = s[t] := by simp [ht]
  rw [hx, e]
  rfl
/-- What skip tells. -/
def skE : Except Nat Nat → Value
  | .ok _ => .nilIface
  | .error p => flt 6 p
/-- Where the reader stands behind skip. -/
def skP : Except Nat Nat → Nat
  | .ok j => j
  | .error p => p
theorem byte_eq {b : List UInt8} {i : Nat} {c : UInt8} (hi : i < b.length) : b[i]? = some c ↔ bt8 b i = (c.toNat : Int) := by
  rw [List.getElem?_eq_getElem hi]
  unfold bt8
  simp only [Option.some.injEq]
  have e : b.getD i 0 = b[i] := by simp [hi]
  rw [e]
  constructor
  · intro h; rw [h]
  · intro h; exact UInt8.toNat_inj.1 (by omega)

set_option maxRecDepth 100000 in
set_option maxHeartbeats 4000000 in
theorem skip_any (sb : Nat) (a : Option Addr) (c : Nat) (b : List UInt8) (i0 : Nat) (s : List UInt8) (w : World) (h : Sr w sb a c b i0) (hs : s.length ≤ 100) (hb : b.length ≤ 140737488355328) :
    Calls Tryd.prog 67 #[.pointer (some ⟨sb, 0, none⟩), .string ⟨s.toArray⟩] w fun e w' => e = .returned (skE (skp b i0 s)) ∧ Sr w' sb a c b (skP (skp b i0 s)) ∧ w.grownBy w' (some sb) := by
  have hsz : (⟨s.toArray⟩ : ByteArray).size = s.length := by simp [ByteArray.size]
  go_enter Tryd.func67, Tryd.ntmps67
  go_wp2
  go_loopw [8] (fun i wr => ∃ t j : Nat, t ≤ s.length ∧ i = .int .i64 (t : Int) ∧ Hid (skp b j (s.drop t) = skp b i0 s) ∧ Sr wr sb a c b j ∧ w.grownBy wr (some sb)) (fun i _ => s.length - (intOf i).toNat)
  case atStart => exact ⟨0, i0, Nat.zero_le _, rfl, hide rfl, h, gr_refl _ _⟩
  case round =>
    obtain ⟨t, j, ht, rfl, HS, hS, hg⟩ := hrel
    obtain ⟨p0, p1, pf, prd, ple, poff⟩ := id hS
    by_cases htl : t < s.length
    · have htl' : (t : Int) < (s.length : Int) := by omega
      by_cases hjb : j < b.length
      · have hjb' : ((j : Int) == (b.length : Int)) = false := by simp; omega
        have hjl : (j : Int) < (b.length : Int) := by omega
        obtain ⟨g, off, rfl, hc⟩ := prd.byte hjb
        have hcj := hc j hjb
        clear hc
        obtain ⟨x, hxe⟩ : ∃ x : UInt8, x = s.getD t 0 := ⟨_, rfl⟩
        have hxs : ∀ hp : t < (⟨s.toArray⟩ : ByteArray).size, (⟨s.toArray⟩ : ByteArray)[t]'hp = x := fun hp => str_at s htl hp hxe
        have HXE := hide hxe
        clear hxe
        obtain ⟨hz0, hz1⟩ := bt8_lo b j
        by_cases hbx : bt8 b j = (x.toNat : Int)
        · have hne : (bt8 b j != (x.toNat : Int)) = false := by simp [hbx]
          have HON := hide (skp_on htl (by rw [← unhide HXE]; exact (byte_eq hjb).2 hbx))
          clear hbx
          generalize bt8 b j = z at *
          go_wp2
          go_quiet (fail)
          go_wp2
          exact ⟨⟨t + 1, j + 1, by omega, by go_num, hide (by rw [← unhide HON]; exact unhide HS), Sr.set (j := j + 1) (hS.drewN _) (show j + 1 ≤ b.length by omega), gr_set (gr_drewN hg _) _ _⟩, by simp [intOf]; omega⟩
        · have hne : (bt8 b j != (x.toNat : Int)) = true := by simpa using hbx
          have HNO := hide (skp_no htl (fun e => hbx ((byte_eq hjb).1 (by rw [unhide HXE]; exact e))))
          rw [unhide HS] at HNO
          clear hbx
          generalize bt8 b j = z at *
          go_wp2
          go_quiet (fail)
          go_wp2
          go_ret
          exact ⟨by rw [unhide HNO]; rfl, by rw [unhide HNO]; exact hS.drewN _, gr_drewN hg _⟩
      · have hjb' : ((j : Int) == (b.length : Int)) = true := by simp; omega
        have HNO := hide (skp_no (b := b) (i := j) htl (by rw [List.getElem?_eq_none (by omega)]; simp))
        rw [unhide HS] at HNO
        go_wp2
        go_quiet (fail)
        go_wp2
        go_ret
        exact ⟨by rw [unhide HNO]; rfl, by rw [unhide HNO]; exact hS.drewN _, gr_drewN hg _⟩
    · have HE := unhide HS
      rw [List.drop_eq_nil_of_le (by omega)] at HE
      have HE2 := hide HE
      clear HE
      have hge : ¬ ((t : Int) < (s.length : Int)) := by omega
      go_wp2
      go_ret
      exact ⟨by rw [← unhide HE2]; rfl, by rw [← unhide HE2]; exact hS, hg⟩

/-- What a reader's step tells: the number and the error; where it stands behind it. -/
def rdT (b : List UInt8) (i : Nat) (s : List UInt8) (lo hi e : Int) : Except (Nat × Int) (List (Int × Int) × Nat) := tk b i [.tx s, .nm lo hi e]
def rdN : Except (Nat × Int) (List (Int × Int) × Nat) → Int
  | .ok (x :: _, _) => x.2
  | _ => 0
def rdE : Except (Nat × Int) (List (Int × Int) × Nat) → Value
  | .ok _ => .nilIface
  | .error x => flt x.2 x.1
theorem rd_skip {b : List UInt8} {i p : Nat} {s : List UInt8} {lo hi e : Int} (h : skp b i s = .error p) : rdT b i s lo hi e = .error (p, 6) := tk_tx_bad h
theorem rd_form {b : List UInt8} {i j : Nat} {s : List UInt8} {lo hi e : Int} (h : skp b i s = .ok j) (hf : (numV b j).2.2 ≠ 0) : rdT b i s lo hi e = .error ((numV b j).2.1, (numV b j).2.2) := by
  unfold rdT; rw [tk_tx h, tk_nm_form hf]
theorem rd_out {b : List UInt8} {i j : Nat} {s : List UInt8} {lo hi e : Int} (h : skp b i s = .ok j) (hf : (numV b j).2.2 = 0) (ho : ((numV b j).1 : Int) < lo ∨ hi < ((numV b j).1 : Int)) : rdT b i s lo hi e = .error (j, e) := by
  unfold rdT; rw [tk_tx h, tk_nm_out hf ho]
theorem rd_ok {b : List UInt8} {i j : Nat} {s : List UInt8} {lo hi e : Int} (h : skp b i s = .ok j) (hf : (numV b j).2.2 = 0) (h0 : lo ≤ ((numV b j).1 : Int)) (h1 : ((numV b j).1 : Int) ≤ hi) : rdT b i s lo hi e = .ok ([(e, ((numV b j).1 : Int))], (numV b j).2.1) := by
  unfold rdT; rw [tk_tx h, tk_nm hf h0 h1]; rfl
theorem numV_ne {b : List UInt8} {i : Nat} (h : (numV b i).2.2 ≠ 0) : ((numV b i).2.2 != 0) = true := by simpa using h
theorem ret_i2 {a b : Int} {u v : Value} (h : a = b) (g : u = v) : Ending.returned (.tuple #[.int .i64 a, u]) = .returned (.tuple #[.int .i64 b, v]) := by rw [h, g]

theorem quietS {P : Program} {f : FuncId} {args : Array Value} {w : World} {n : Nat} {v : Value} (h : Calls P f args (w.drewN n) fun e w' => e = .returned v ∧ w' = w.drewN n) :
    Calls P f args (w.drewN n) fun e w'' => e = .returned v ∧ ∃ m, w'' = w.drewN m := h.mono fun _ _ ⟨he, hm⟩ => ⟨he, n, hm⟩

set_option maxRecDepth 100000 in
set_option maxHeartbeats 4000000 in
theorem step_any (sb : Nat) (a : Option Addr) (c : Nat) (b : List UInt8) (i0 : Nat) (s : List UInt8) (lo hi er : Int) (w : World) (h : Sr w sb a c b i0) (hs : s.length ≤ 100) (hb : b.length ≤ 140737488355328) :
    Calls Tryd.prog 47 #[.pointer (some ⟨sb, 0, none⟩), .string ⟨s.toArray⟩, .int .i64 lo, .int .i64 hi, .int .i64 er] w fun e w' =>
      e = .returned (.tuple #[.int .i64 (rdN (rdT b i0 s lo hi er)), rdE (rdT b i0 s lo hi er)]) ∧ (∃ j, Sr w' sb a c b j ∧ ∀ l k, rdT b i0 s lo hi er = .ok (l, k) → j = k) ∧ w.grownBy w' (some sb) := by
  have hsk := skip_any sb a c b i0 s w h hs hb
  go_enter Tryd.func47, Tryd.ntmps47
  go_wp2_with fail
  refine hsk.mono ?_
  rintro e w1 ⟨rfl, h1, hg1⟩
  cases hk : skp b i0 s with
  | error p =>
    have HR := hide (rd_skip (lo := lo) (hi := hi) (e := er) hk)
    rw [hk] at h1
    clear hsk hk
    unfold skE flt
    go_wp2
    go_ret2
    refine ⟨ret_i2 (by rw [unhide HR]; rfl) (by rw [unhide HR]; rfl), ⟨_, h1, fun l k e => ?_⟩, hg1⟩
    rw [unhide HR] at e; cases e
  | ok j =>
    rw [hk] at h1
    have h1' : Sr w1 sb a c b j := h1
    have hjl := h1'.le
    obtain ⟨p0, p1, pf, prd, ple, poff⟩ := id h1'
    have hnum := fun wz (hz : Below w1.heap.size w1 wz) => number_any a c b (j : Int) wz (prd.below hz) hb
    rw [nmV_at hjl] at hnum
    have HK := hide hk
    have hn4 : (0 : Int) ≤ ((numV b j).1 : Int) := by omega
    have hnle := numV_le hjl
    unfold skE
    by_cases hf : (numV b j).2.2 = 0
    · have hne : ((numV b j).2.2 != 0) = false := by simp [hf]
      by_cases hlo : ((numV b j).1 : Int) < lo
      · have HR := hide (rd_out (hi := hi) (e := er) hk hf (.inl hlo))
        clear hf hk hsk h1
        generalize (numV b j).1 = n at *
        generalize (numV b j).2.1 = nx at *
        generalize (numV b j).2.2 = f at *
        go_wp2
        go_quiet ((go_at_call 21; with_reducible exact quietS (hnum _ (below_drewN (Below.refl _ _) _))))
        go_wp2
        go_quiet (fail)
        go_wp2
        go_ret2
        refine ⟨ret_i2 (by rw [unhide HR]; rfl) (by rw [unhide HR]; rfl), ⟨_, (h1'.drewN _).drewN _, fun l k e => ?_⟩, gr_drewN (gr_drewN hg1 _) _⟩
        rw [unhide HR] at e; cases e
      · by_cases hhi : hi < ((numV b j).1 : Int)
        · have HR := hide (rd_out (lo := lo) (e := er) hk hf (.inr hhi))
          clear hf hk hsk h1
          generalize (numV b j).1 = n at *
          generalize (numV b j).2.1 = nx at *
          generalize (numV b j).2.2 = f at *
          go_wp2
          go_quiet ((go_at_call 21; with_reducible exact quietS (hnum _ (below_drewN (Below.refl _ _) _))))
          go_wp2
          go_quiet (fail)
          go_wp2
          go_ret2
          refine ⟨ret_i2 (by rw [unhide HR]; rfl) (by rw [unhide HR]; rfl), ⟨_, (h1'.drewN _).drewN _, fun l k e => ?_⟩, gr_drewN (gr_drewN hg1 _) _⟩
          rw [unhide HR] at e; cases e
        · have HR := hide (rd_ok (lo := lo) (hi := hi) (e := er) hk hf (by omega) (by omega))
          clear hf hk hsk h1
          generalize (numV b j).1 = n at *
          generalize (numV b j).2.1 = nx at *
          generalize (numV b j).2.2 = f at *
          go_wp2
          go_quiet ((go_at_call 21; with_reducible exact quietS (hnum _ (below_drewN (Below.refl _ _) _))))
          go_wp2
          go_ret2
          refine ⟨ret_i2 (by rw [unhide HR]; rfl) (by rw [unhide HR]; rfl), ⟨nx, (h1'.drewN _).set hnle.2, fun l k e => ?_⟩, gr_set (gr_drewN hg1 _) _ _⟩
          rw [unhide HR] at e; cases e; rfl
    · have hne := numV_ne hf
      have HR := hide (rd_form (lo := lo) (hi := hi) (e := er) hk hf)
      clear hf hk hsk h1
      generalize (numV b j).1 = n at *
      generalize (numV b j).2.1 = nx at *
      generalize (numV b j).2.2 = f at *
      go_wp2
      go_quiet ((go_at_call 21; with_reducible exact quietS (hnum _ (below_drewN (Below.refl _ _) _))))
      go_wp2
      go_ret2
      refine ⟨ret_i2 (by rw [unhide HR]; rfl) (by rw [unhide HR]; rfl), ⟨_, h1'.drewN _, fun l k e => ?_⟩, gr_drewN hg1 _⟩
      rw [unhide HR] at e; cases e

end Go.Proofs.YtdnmabemollbeaaDoor
