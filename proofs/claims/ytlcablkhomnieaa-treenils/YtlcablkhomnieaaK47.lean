/-
  Some texts of this seat, one behind the other.
-/
import Derived.Deep.RegionHeld
import Derived.Deep.RegionHeld3
import Derived.Test.YtlcablkhomnieaaCheck
import Derived.Test.YtlcablkhomnieaaK46
/-
  The program's tree: Sift, Tell.
-/
namespace Go.Proofs.Ytlcablkhomnieaa
set_option linter.unusedVariables false
open Go.RowKit

section
variable {B : Nat} {w w' : World} {p : Tp} {s : Tr}
/-- What a call that turns the tree leaves. -/
def ChT (B : Nat) (p : Tp) (s : Tr) (s' : Tr) (v : Value) (w : World) (e : Ending) (w' : World) : Prop :=
  ∃ p', e = .returned v ∧ TM B w' p' s' ∧ Bx (p.has s) w w' ∧ GwT p p' s s' w.heap.size ∧ p'.b = p.b ∧ ∀ i, i < s'.nn → p'.sz i ≤ 3 * s'.nl
/-- A list that lies outside of the tree. -/
def RzT (w : World) (p : Tp) (s : Tr) (a : Option Addr) (l : List Int) : Prop := RdL .i64 w a l ∧ ∀ x, a = some x → x.block < w.heap.size ∧ ¬ p.has s x.block
theorem GwT.refl (p : Tp) (s : Tr) (N : Nat) : GwT p p s s N := fun _ h => .inl h
theorem TM.stay (h : TM B w p s) (hz : ∀ i, i < s.nn → p.sz i ≤ 3 * s.nl) (v : Value) (hb : Below w.heap.size w w') : ChT B p s s v w (.returned v) w' := ⟨p, rfl, h.below hb, Bx.of hb, GwT.refl _ _ _, rfl, hz⟩
set_option maxRecDepth 100000 in
set_option maxHeartbeats 4000000 in
theorem sift_any (h : TM B w p s) (hrt : ∃ n, s.root = some n) (hz : ∀ i, i < s.nn → p.sz i ≤ 3 * s.nl) (hB : B ≤ w.heap.size) (a : Option Addr) (c : Nat) (l : List Int) (hr : RdL .i64 w a l) (hn : a = none → l.length = 0 ∧ c = 0) (hl : l.length ≤ maxLen) :
    Calls Try.prog 14 #[.pointer (some ⟨p.b, 0, none⟩), .slice a l.length c] w (ChT B p s (s.siftT l).1 (.int .i64 (s.siftT l).2) w) := by
  have hck := check_any a l.length c (fun i => l.getD i 0) s.k w hr.rd hl
  have c1 := h.c1
  have HH := hide h
  have HZ := hide hz
  have HR := hide hr
  by_cases he : wdE l s.k = 0
  · have he' : (chkV l.length (fun i => l.getD i 0) s.k).2 = 0 := he
    have hl4 : l.length ≤ 4096 := by obtain ⟨_, _, q, _⟩ := word_of_chk he'; exact q
    have HP : Hid (∀ w' sa sc, OwnL .i64 3 w' w.heap.size (.slice sa l.length sc) l → (∀ k, k < w.heap.size → k ≠ p.b → w'.heap[k]? = w.heap[k]?) → Bx (p.has s) w w' → Bk w' p.b (trC { p with sa := sa, sc := sc } { s with sif := l, pos := s.root }) 83 → ChT B p s (s.siftT l).1 (.int .i64 (s.siftT l).2) w (.returned (.int .i64 0)) w') := hide fun w' sa sc ho hk hb hbk => by
      have e1 : s.siftT l = ({ s with sif := l, pos := s.root }, 0) := by unfold Tr.siftT; rw [if_neg (by rw [he]; simp)]
      rw [e1]
      exact ⟨{ p with sa := sa, sc := sc }, rfl, h.sift hk l sa sc s.root (ho.mono hB) hbk, hb, fun k hk => .inl hk, rfl, hz⟩
    rw [he'] at hck
    have c3 := h.c3
    have c6 := h.c6
    have c7 := h.c7
    have fz := h.frz
    have HJ : Hid (∀ wx g, Below w.heap.size w wx → wx.cell? ⟨g, 0, none⟩ = some (.slice a l.length c) → Calls Try.prog 41 #[.slice (some ⟨g, 0, none⟩) 1 1] wx fun e w' => ∃ a' c', e = .returned (.slice a' l.length c') ∧ OwnL .i64 3 w' wx.heap.size (.slice a' l.length c') l ∧ Below wx.heap.size wx w') := hide fun wx g hx hg => join1_any a c l g wx hg (hr.below hx) hn (by omega)
    have HE0 := hide he
    clear h hz hr he he' hl
    go_enter Try.func14, Try.ntmps14
    go_wp2_with fail
    refine hck.mono ?_
    rintro e w1 ⟨rfl, hw1⟩
    subst hw1
    go_wp2
    obtain ⟨T, bv, hT⟩ : ∃ T bv, p.atV s.root = .iface T bv := by
      obtain ⟨n, hn⟩ := hrt
      rw [hn]
      cases n with
      | inl i => exact ⟨_, _, rfl⟩
      | inr j => exact ⟨_, _, rfl⟩
    have HT := hide hT
    rw [hT] at c3
    have hbA := ballo w1 (.cells #[.slice a l.length c] 29)
    have hsB : (w1.alloc (.cells #[.slice a l.length c] 29)).drew.cell? ⟨p.b, 3, none⟩ = some (.iface T bv) := (hT ▸ ((unhide HH).below hbA).c3)
    have HBA := hide hbA
    clear hbA
    go_region_held3 (fun wz => wz.cell? ⟨p.b, 3, none⟩ = some (.iface T bv)) (first | exact hsA | exact hsB | exact c3 | exact hsC _ | exact hsD _ _) (first | (go_at_call 41; refine (unhide HJ _ _ (unhide HBA).drew (by simp)).mono ?_; rintro e wJ ⟨ja, jc, rfl, hj, hbj⟩; have hsA : wJ.cell? ⟨p.b, 3, none⟩ = some (.iface T bv) := (unhide HT ▸ ((unhide HH).below (bstep (unhide HBA).drew hbj)).c3); have k6J := ((unhide HH).below (bstep (unhide HBA).drew hbj)).c6; have k7J := ((unhide HH).below (bstep (unhide HBA).drew hbj)).c7; have fzJ := ((unhide HH).below (bstep (unhide HBA).drew hbj)).frz; have hsC : ∀ v, (wJ.setCell ⟨p.b, 6, none⟩ v).cell? ⟨p.b, 3, none⟩ = some (.iface T bv) := fun v => (unhide HT ▸ (((unhide HH).below (bstep (unhide HBA).drew hbj)).o.set 6 v).cell 3); have hsD : ∀ v u, ((wJ.setCell ⟨p.b, 6, none⟩ v).setCell ⟨p.b, 7, none⟩ u).cell? ⟨p.b, 3, none⟩ = some (.iface T bv) := fun v u => (unhide HT ▸ ((((unhide HH).below (bstep (unhide HBA).drew hbj)).o.set 6 v).set 7 u).cell 3); have k7K : ∀ v, (wJ.setCell ⟨p.b, 6, none⟩ v).cell? ⟨p.b, 7, none⟩ = some (p.atV s.pos) := fun v => (((unhide HH).below (bstep (unhide HBA).drew hbj)).o.set 6 v).cell 7; have f7K : ∀ v i, (wJ.setCell ⟨p.b, 6, none⟩ v).frozen? ⟨p.b, i, none⟩ = false := fun v i => (((unhide HH).below (bstep (unhide HBA).drew hbj)).o.set 6 v).frz i))
    have HJB := bstep (unhide HBA).drew hbj
    have oJ := ((unhide HH).below HJB).o
    have hpl := (unhide HH).o.lt
    have hko : ∀ k, k ≠ p.b → ((wJ.setCell ⟨p.b, 6, none⟩ (.slice ja l.length jc)).setCell ⟨p.b, 7, none⟩ (.iface T bv)).heap[k]? = wJ.heap[k]? := fun k hk => (Below.heap_setCell _ _ _ k hk).trans (Below.heap_setCell _ _ _ k hk)
    have HQ := hide (unhide HP ((wJ.setCell ⟨p.b, 6, none⟩ (.slice ja l.length jc)).setCell ⟨p.b, 7, none⟩ (.iface T bv)) ja jc
      ((hj.keep fun b e => by
        obtain ⟨cs, q⟩ := own_ty hj e
        exact hko b (bk_ne oJ q (by decide))).mono (by simp))
      (fun k h1 h2 => (hko k h2).trans (HJB.block k h1))
      (((Bx.of (X := p.has s) HJB).setCell (p := ⟨p.b, 6, none⟩) (.inl rfl) _).setCell (p := ⟨p.b, 7, none⟩) (.inl rfl) _)
      (by
        have := (oJ.set 6 (.slice ja l.length jc)).set 7 (.iface T bv)
        rw [← unhide HT] at this ⊢
        exact this))
    clear oJ hko hj hbj hsA hsC hsD k6J k7J k7K f7K fzJ HJB HP
    go_wp2
    go_ret
    have e2 : (s.siftT l).2 = 0 := by unfold Tr.siftT; rw [if_neg (by rw [unhide HE0]; simp)]
    rw [e2] at HQ ⊢
    exact unhide HQ
  · have he' : (chkV l.length (fun i => l.getD i 0) s.k).2 ≠ 0 := he
    have e1 : s.siftT l = (s, wdE l s.k) := by unfold Tr.siftT; rw [if_pos he]
    rw [e1]
    have e2 : wdE l s.k = (chkV l.length (fun i => l.getD i 0) s.k).2 := rfl
    rw [e2]
    have HE := hide hck
    clear hck
    generalize (chkV l.length (fun i => l.getD i 0) s.k).2 = E at *
    have hck := unhide HE
    have t1 : (E != 0) = true := by simpa using he'
    clear h hz hr he he' e1 e2
    go_enter Try.func14, Try.ntmps14
    go_wp2_with fail
    refine hck.mono ?_
    rintro e w1 ⟨rfl, hw1⟩
    subst hw1
    go_wp2
    go_ret
    exact (unhide HH).stay (unhide HZ) _ (Below.refl _ _)
end

end Go.Proofs.Ytlcablkhomnieaa

/-
  The program's tree: Tell.
-/
namespace Go.Proofs.Ytlcablkhomnieaa
set_option linter.unusedVariables false
open Go.RowKit

section
variable {B : Nat} {w w' : World} {p : Tp} {s : Tr}
theorem fitR_ok {s : Tr} {wd out : List Int} (h : fitR s wd out = 0) : (s.kind = 1 ∧ out.length = 1 ∧ inB 2 out = true) ∨ (s.kind = 2 ∧ out.length = wd.length ∧ inB s.o out = true) := by
  unfold fitR chkA at h
  rw [if_neg (by simp), if_neg (by simp)] at h
  split at h
  · rename_i c; exact c.2.2
  · cases h
theorem ofR_mem {s : Tr} {d out : List Int} : ∀ x ∈ ofR s d out, x ∈ out := fun x hx => by
  unfold ofR at hx
  split at hx
  · exact List.mem_of_mem_drop hx
  · exact hx
theorem ofR_len {s : Tr} {d out : List Int} : (ofR s d out).length ≤ out.length := by
  unfold ofR
  split
  · rw [List.length_drop]; omega
  · exact Nat.le_refl _
theorem fit_sb {s : Tr} (W : s.Wf) {wd out : List Int} (h : fitR s wd out = 0) : ∀ x ∈ out, 0 ≤ x ∧ x < 256 := fun x hx => by
  have := W.o1
  rcases fitR_ok h with ⟨-, -, k⟩ | ⟨-, -, k⟩
  · have := of_decide_eq_true (List.all_eq_true.1 k x hx); omega
  · have := of_decide_eq_true (List.all_eq_true.1 k x hx); omega
theorem fit_len {s : Tr} {wd out : List Int} (h : fitR s wd out = 0) : out.length ≤ wd.length + 1 ∧ (s.kind = 2 → out.length = wd.length) := by
  rcases fitR_ok h with ⟨k, l, -⟩ | ⟨k, l, -⟩
  · exact ⟨by omega, fun e => by omega⟩
  · exact ⟨by omega, fun _ => l⟩
theorem TM.drew (h : TM B w p s) : TM B w.drew p s := h.keep fun _ _ => rfl
set_option maxRecDepth 100000 in
set_option maxHeartbeats 4000000 in
theorem tell_off (h : TM B w p s) (hz : ∀ i, i < s.nn → p.sz i ≤ 3 * s.nl) (v : Value) (hq : ∀ i, s.pos ≠ some (.inl i)) :
    Calls Try.prog 16 #[.pointer (some ⟨p.b, 0, none⟩), v] w (ChT B p s s (.int .i64 7) w) := by
  have hw := where_any h
  have HH := hide h
  have HZ := hide hz
  clear h hz
  cases hp : s.pos with
  | none =>
    rw [hp] at hw
    go_enter Try.func16, Try.ntmps16
    go_wp2_with fail
    refine hw.mono ?_
    rintro e w1 ⟨rfl, hw1⟩
    subst hw1
    unfold Tp.whV
    go_wp2
    go_ret
    exact (unhide HH).stay (unhide HZ) _ (Below.refl _ _)
  | some n =>
    cases n with
    | inl i => exact absurd hp (hq i)
    | inr j =>
      rw [hp] at hw
      go_enter Try.func16, Try.ntmps16
      go_wp2_with fail
      refine hw.mono ?_
      rintro e w1 ⟨rfl, hw1⟩
      subst hw1
      unfold Tp.whV
      go_wp2
      go_ret
      exact (unhide HH).stay (unhide HZ) _ (Below.refl _ _)
set_option maxRecDepth 100000 in
set_option maxHeartbeats 8000000 in
theorem tell_on (h : TM B w p s) (W : s.Wf) (hz : ∀ i, i < s.nn → p.sz i ≤ 3 * s.nl) (hB : B ≤ w.heap.size) (i : Nat) (hq : s.pos = some (.inl i)) (a : Option Addr) (c : Nat) (out : List Int) (hr : RdL .i64 w a out) (hl : out.length ≤ c) (hc : c ≤ maxLen) :
    Calls Try.prog 16 #[.pointer (some ⟨p.b, 0, none⟩), .slice a out.length c] w (ChT B p s (s.tellT out).1 (.int .i64 (s.tellT out).2) w) := by
  have hw := where_any h
  rw [hq] at hw
  unfold Tp.whV at hw
  have hi : i < s.nn := W.ok.ps _ hq
  have c6 := h.c6
  have n3 := h.n3 hi
  obtain ⟨-, s1, s2⟩ := own_nil h.sf
  obtain ⟨-, d1, d2⟩ := own_nil (h.wd i hi)
  have hl1 := W.si.1
  have hl2 := (W.wd i hi).2.1
  have hol : out.length ≤ maxLen := Nat.le_trans hl hc
  have HF := hide fun (X : World) (a1 : Option Addr) (c1 : Nat) (hX : Below w.heap.size w X) => rfits_any a1 c1 (s.sif ++ (s.nd i).wd) a c out (h.below hX) (hr.below hX) hol
  have HJ := hide fun (X : World) (g : Nat) (hX : Below w.heap.size w X) h0 h1 => join2_any p.sa p.sc s.sif (p.wa i) (p.wc i) (s.nd i).wd g X h0 h1 (s2.below hX) s1 (by omega) (d2.below hX) d1 (by omega)
  have HH := hide h
  have HZ := hide hz
  have HR := hide hr
  by_cases hf : fitR s (s.sif ++ (s.nd i).wd) out = 0
  rotate_left
  · have e1 : s.tellT out = (s, 100) := by
      unfold Tr.tellT; rw [hq]; show (if _ then _ else _) = _; rw [if_pos hf]
    rw [e1]
    rw [show (fitR s (s.sif ++ (s.nd i).wd) out == 0) = false from beq_eq_false_iff_ne.2 hf] at HF
    clear h W hz hr hf s2 d2 e1
    go_enter Try.func16, Try.ntmps16
    go_wp2_with fail
    refine hw.mono ?_
    rintro e w1 ⟨rfl, hw1⟩
    subst hw1
    go_wp2
    refine tq_region w1 w1.heap.size p.b (p.ib i) p.sa s.sif.length p.sc (p.wa i) (s.nd i).wd.length (p.wc i) (s.sif ++ (s.nd i).wd) a out.length c false _ _ _ _ _ _ _ _ _ _ _ _ _ _ _ _ _ _ _ _ _ _ _ _ _ _ _ _ _ _ _ _ _ _ _ _ _ _ _ _ _ _ _ _ _ _ _ _ _ _ _ _ _ _ _ _ _ _ _ _ _ _ _ c6 n3 rfl (unhide HJ) (unhide HF) ?_
    rintro X u19 u20 u21 u22 u23 u24 u25 u26 u27 u28 u29 u30 u31 hX
    clear c6 n3
    go_wp2
    go_ret
    exact (unhide HH).stay (unhide HZ) _ hX
  · rw [show (fitR s (s.sif ++ (s.nd i).wd) out == 0) = true from by rw [hf]; rfl] at HF
    obtain ⟨x, hx⟩ : ∃ x, x = ofR s (s.nd i).wd out := ⟨_, rfl⟩
    have e1 : s.tellT out = s.tellN i x := by
      unfold Tr.tellT; rw [hq, hx]; show (if _ then _ else _) = _; rw [if_neg (by simp [hf])]
    rw [e1]
    have hfl := fit_len hf
    rw [List.length_append] at hfl
    have hsx : Sb x := fun y hy => by rw [hx] at hy; exact fit_sb W hf y (ofR_mem y hy)
    have hxl : x.length ≤ 100000 := by rw [hx]; have := ofR_len (s := s) (d := (s.nd i).wd) (out := out); omega
    have hok : okS x := ⟨hsx, by omega⟩
    have HON := hide fun (X : World) (hX : Below w.heap.size w X) => ofNode_any (h.below hX) hi a c out (hr.below hX) hol hl hc (fun k => ⟨(W.wd i hi).2.2 k, by have := hfl.2 k; omega⟩)
    rw [← hx] at HON
    have HSP := hide fun (X : World) (a' : Option Addr) (c' : Nat) (h' : RdL .i64 X a' x) => tspell_any a' c' x X h' hsx (by omega)
    have HLK := hide fun (X : World) (hX : Below w.heap.size w X) => FMap.look keysT ((h.below hX).mp i hi) (t := 96) Try.underlying96 (Try.zeroValue80 X) hok
    have HW := hide W
    have HOK := hide hok
    have HHI := hide hi
    cases hch : s.ch i x with
    | some n =>
      rw [hch] at HLK
      simp only [Option.map_some, Option.getD_some, Option.isSome_some] at HLK
      obtain ⟨T, bv, hT⟩ : ∃ T bv, p.ndV n = .iface T bv := by
        cases n with
        | inl i => exact ⟨_, _, rfl⟩
        | inr j => exact ⟨_, _, rfl⟩
      rw [hT] at HLK
      have e2 : s.tellN i x = ({ s with pos := some n }, 0) := by unfold Tr.tellN; rw [hch]
      rw [e2]
      have HP : Hid (∀ X, Below w.heap.size w X → ChT B p s { s with pos := some n } (.int .i64 0) w (.returned (.int .i64 0)) (X.setCell ⟨p.b, 7, none⟩ (.iface T bv))) := hide fun X hX => by
        have hm := h.below hX
        refine ⟨p, rfl, hm.obj (fun k hk => Below.heap_setCell _ _ _ k hk) s.dep s.root (some n) ?_, (Bx.of (X := p.has s) hX).setCell (p := ⟨p.b, 7, none⟩) (.inl rfl) _, fun k hk => .inl hk, rfl, hz⟩
        show Bk _ _ ((trC p s).set 7 (p.ndV n)) _
        rw [hT]
        exact hm.o.set 7 _
      clear h W hz hr hf s2 d2 e1 e2 hch hT hfl hsx hok hx
      go_enter Try.func16, Try.ntmps16
      go_wp2_with fail
      refine hw.mono ?_
      rintro e w1 ⟨rfl, hw1⟩
      subst hw1
      go_wp2
      refine tq_region w1 w1.heap.size p.b (p.ib i) p.sa s.sif.length p.sc (p.wa i) (s.nd i).wd.length (p.wc i) (s.sif ++ (s.nd i).wd) a out.length c true _ _ _ _ _ _ _ _ _ _ _ _ _ _ _ _ _ _ _ _ _ _ _ _ _ _ _ _ _ _ _ _ _ _ _ _ _ _ _ _ _ _ _ _ _ _ _ _ _ _ _ _ _ _ _ _ _ _ _ _ _ _ _ c6 n3 rfl (unhide HJ) (unhide HF) ?_
      rintro X u19 u20 u21 u22 u23 u24 u25 u26 u27 u28 u29 u30 u31 hX
      clear c6 n3
      have HX := hide hX
      have hon := unhide HON X hX
      go_wp2_with fail
      refine hon.mono ?_
      clear hon
      rintro e X1 ⟨a', c', rfl, hrx, hX1⟩
      subst hX1
      have hsp := unhide HSP X1 a' c' hrx
      go_wp2_with fail
      refine hsp.mono ?_
      clear hsp hrx
      rintro e X2 ⟨rfl, hb2⟩
      have hX2 := bstep hX hb2
      have hlk := unhide HLK X2 hX2
      have H2 := (unhide HH).below hX2
      have n4 := H2.n4 (unhide HHI)
      have c7 := H2.c7
      have fz := H2.frz
      have hp := unhide HP X2 hX2
      clear H2
      go_wp2
      go_ret
      exact hp
    | none =>
      rw [hch] at HLK
      simp only [Option.map_none, Option.getD_none, Option.isSome_none] at HLK
      have HFU := hide fun (X : World) (hX : Below w.heap.size w X) => isFull_any (h.below hX)
      by_cases hfull : s.nl = 1024
      · rw [decide_eq_true hfull] at HFU
        have e2 : s.tellN i x = (s, 3) := by unfold Tr.tellN; rw [hch]; show (if _ then _ else _) = _; rw [if_pos hfull]
        rw [e2]
        clear h W hz hr hf s2 d2 e1 e2 hch hfl hsx hok hx hfull
        go_enter Try.func16, Try.ntmps16
        go_wp2_with fail
        refine hw.mono ?_
        rintro e w1 ⟨rfl, hw1⟩
        subst hw1
        go_wp2
        refine tq_region w1 w1.heap.size p.b (p.ib i) p.sa s.sif.length p.sc (p.wa i) (s.nd i).wd.length (p.wc i) (s.sif ++ (s.nd i).wd) a out.length c true _ _ _ _ _ _ _ _ _ _ _ _ _ _ _ _ _ _ _ _ _ _ _ _ _ _ _ _ _ _ _ _ _ _ _ _ _ _ _ _ _ _ _ _ _ _ _ _ _ _ _ _ _ _ _ _ _ _ _ _ _ _ _ c6 n3 rfl (unhide HJ) (unhide HF) ?_
        rintro X u19 u20 u21 u22 u23 u24 u25 u26 u27 u28 u29 u30 u31 hX
        clear c6 n3
        have hon := unhide HON X hX
        go_wp2_with fail
        refine hon.mono ?_
        clear hon
        rintro e X1 ⟨a', c', rfl, hrx, hX1⟩
        subst hX1
        have hsp := unhide HSP X1 a' c' hrx
        go_wp2_with fail
        refine hsp.mono ?_
        clear hsp hrx
        rintro e X2 ⟨rfl, hb2⟩
        have hX2 := bstep hX hb2
        have hlk := unhide HLK X2 hX2
        have n4 := ((unhide HH).below hX2).n4 (unhide HHI)
        have hfu := unhide HFU X2 hX2
        go_wp2_with (go_at_call 47; refine hfu.mono ?_; rintro e X3 ⟨rfl, hX3⟩; subst hX3)
        go_ret
        exact (unhide HH).stay (unhide HZ) _ hX2
      · rw [decide_eq_false hfull] at HFU
        have e2 : s.tellN i x = ({ s.leaf (some i) x ((s.nd i).pa ++ [((s.nd i).wd, x)]) s.sif with pos := some (.inr s.nl) }, 0) := by unfold Tr.tellN; rw [hch]; show (if _ then _ else _) = _; rw [if_neg hfull]
        rw [e2]
        have HBL := hide fun (X : World) (hX : Below w.heap.size w X) => below_any (h.below hX) hi x (by have := W.dps hi; omega)
        have HMS := hide fun (X : World) (hX : Below w.heap.size w X) => makeState_any (h.below hX) W.ok (some i) x ((s.nd i).pa ++ [((s.nd i).wd, x)]) p.sa p.sc s.sif (s2.below hX) s1 (by omega) (fun u e => by cases e; exact ⟨hi, by have := hz i hi; have := W.n1; unfold maxLen; omega⟩) hok (Nat.le_trans hB hX.size) (by have := W.n1; omega)
        rw [show (((s.nd i).pa ++ [((s.nd i).wd, x)]).length) = (s.nd i).pa.length + 1 by simp] at HMS
        have HP : Hid (∀ X p' W', TM B W' p' (s.leaf (some i) x ((s.nd i).pa ++ [((s.nd i).wd, x)]) s.sif) → Below w.heap.size w X → Bx (p.has s) X W' → GwT p p' s (s.leaf (some i) x ((s.nd i).pa ++ [((s.nd i).wd, x)]) s.sif) X.heap.size → p'.b = p.b → (∀ k, k < s.nn → p'.ib k = p.ib k ∧ p'.sz k ≤ p.sz k + 1) →
            ChT B p s { s.leaf (some i) x ((s.nd i).pa ++ [((s.nd i).wd, x)]) s.sif with pos := some (.inr s.nl) } (.int .i64 0) w (.returned (.int .i64 0)) (W'.setCell ⟨p.b, 7, none⟩ (.iface 84 (.pointer (some ⟨p'.fb s.nl, 0, none⟩))))) := hide fun X p' W' hT hX hb hg e hs => by
          have ho := hT.obj (w' := W'.setCell ⟨p.b, 7, none⟩ (.iface 84 (.pointer (some ⟨p'.fb s.nl, 0, none⟩)))) (fun k hk => Below.heap_setCell _ _ _ k (by rw [← e]; exact hk)) (s.leaf (some i) x ((s.nd i).pa ++ [((s.nd i).wd, x)]) s.sif).dep (s.leaf (some i) x ((s.nd i).pa ++ [((s.nd i).wd, x)]) s.sif).root (some (.inr s.nl)) (by
            rw [← e]
            exact hT.o.set 7 _)
          refine ⟨p', rfl, ho, ?_, fun k hk => ?_, e, fun k hk => ?_⟩
          · exact ((Bx.of (X := p.has s) hX).trans hb (fun _ _ h => h)).setCell (p := ⟨p.b, 7, none⟩) (.inl rfl) _
          · exact (hg k hk).imp id fun q => Nat.le_trans hX.size q
          · have hk' : k < s.nn := hk
            have h1 := (hs k hk').2
            have h2 := hz k hk'
            show p'.sz k ≤ 3 * (s.nl + 1)
            omega
        clear h W hz hr hf s2 d2 e1 e2 hch hfl hsx hok hx hfull
        go_enter Try.func16, Try.ntmps16
        go_wp2_with fail
        refine hw.mono ?_
        rintro e w1 ⟨rfl, hw1⟩
        subst hw1
        go_wp2
        refine tq_region w1 w1.heap.size p.b (p.ib i) p.sa s.sif.length p.sc (p.wa i) (s.nd i).wd.length (p.wc i) (s.sif ++ (s.nd i).wd) a out.length c true _ _ _ _ _ _ _ _ _ _ _ _ _ _ _ _ _ _ _ _ _ _ _ _ _ _ _ _ _ _ _ _ _ _ _ _ _ _ _ _ _ _ _ _ _ _ _ _ _ _ _ _ _ _ _ _ _ _ _ _ _ _ _ c6 n3 rfl (unhide HJ) (unhide HF) ?_
        rintro X u19 u20 u21 u22 u23 u24 u25 u26 u27 u28 u29 u30 u31 hX
        clear c6 n3
        have hon := unhide HON X hX
        go_wp2_with fail
        refine hon.mono ?_
        clear hon
        rintro e X1 ⟨a', c', rfl, hrx, hX1⟩
        subst hX1
        have hsp := unhide HSP X1 a' c' hrx
        go_wp2_with fail
        refine hsp.mono ?_
        clear hsp hrx
        rintro e X2 ⟨rfl, hb2⟩
        have hX2 := bstep hX hb2
        have hlk := unhide HLK X2 hX2
        have n4 := ((unhide HH).below hX2).n4 (unhide HHI)
        have hfu := unhide HFU X2 hX2
        go_wp2_with (go_at_call 47; refine hfu.mono ?_; rintro e X3 ⟨rfl, hX3⟩; subst hX3)
        have c6 := ((unhide HH).below hX2).c6
        have HX3 := hide hX2
        clear hfu n4 hlk hb2 hX hX2
        go_region_held3 (fun wz => wz.cell? ⟨p.b, 6, none⟩ = some (.slice p.sa s.sif.length p.sc)) (first | exact c6 | exact k6A | exact k6B)
          (first
            | (go_at_call 48; refine (unhide HBL _ (unhide HX3).drew).mono ?_; rintro e XA ⟨rfl, hbA⟩; have k6A := ((unhide HH).below (bstep (unhide HX3).drew hbA)).c6; have hAA := hide (bstep (unhide HX3).drew hbA); clear hbA)
            | (go_at_call 39; refine (unhide HMS _ (unhide hAA)).mono ?_; rintro e XB ⟨p', rfl, t1, t2, t3, t4, t5, t6, t7, t8, t9⟩; have k6B : XB.cell? ⟨p.b, 6, none⟩ = some (.slice p.sa s.sif.length p.sc) := (by have := t1.c6; rw [t4, t8, t9] at this; exact this); have k7B := t1.c7; have fzB := t1.frz; have HT1 := hide t1; have HT2 := hide t2; have HT3 := hide t3; have HT4 := hide t4; have HT5 := hide t5; clear t1 t2 t3 t5 t6 t7 t8 t9))
        have hp := unhide HP XA p' XB (unhide HT1) (unhide hAA) (unhide HT2) (unhide HT3) t4 (unhide HT5)
        rw [t4] at k7B fzB
        clear HP HT1 HT2 HT3 HT4 HT5 k6A k6B c6 HMS HBL HLK HON HSP
        generalize s.leaf (some i) x ((s.nd i).pa ++ [((s.nd i).wd, x)]) s.sif = s2 at *
        go_wp2
        go_ret
        exact hp
end

end Go.Proofs.Ytlcablkhomnieaa
