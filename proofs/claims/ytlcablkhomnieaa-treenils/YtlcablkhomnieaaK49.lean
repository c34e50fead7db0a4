/-
  Some texts of this seat, one behind the other.
-/
import Derived.LaidEqlPtr
import Derived.Test.YtlcablkhomnieaaK44
import Derived.Test.YtlcablkhomnieaaK46
import Derived.Test.YtlcablkhomnieaaK47
/-
  The program's tree: Common; New.
-/
namespace Go.Proofs.Ytlcablkhomnieaa
set_option linter.unusedVariables false
open Go.RowKit

theorem neqp_same {P : Program} (w : World) {tp te : TypeId} {k : Nat} (a : Addr) (hp : P.underlying tp = some (.pointer te)) (hte : (P.info? te).map (·.size) = some (k + 1)) : (binOp .neq tp (.pointer (some a)) (.pointer (some a))).run P w = .ok (.bool false) w := by
  obtain ⟨j, hj, -⟩ := Option.map_eq_some_iff.1 hte
  have h : ∀ d : Nat, (Op.equalIn (d + 1) tp (.pointer (some a)) (.pointer (some a))).run P w = .ok true w := fun d => by
    simp [Op.equalIn, run_underlying hp, sizeOf, typeInfo, hj, run_sameAddr_same]
  simp only [binOp]
  simp [Op.equal, Op.maxDepth, h 9999]
theorem neqp_other {P : Program} (w : World) {tp te : TypeId} {k : Nat} {a b : Addr} {ca cb : Array Value} {ta tb : TypeId} (hp : P.underlying tp = some (.pointer te)) (hte : (P.info? te).map (·.size) = some (k + 1))
    (hne : a ≠ b) (ha : w.heap[a.block]? = some (.cells ca ta (0, 0))) (hb : w.heap[b.block]? = some (.cells cb tb (0, 0))) : (binOp .neq tp (.pointer (some a)) (.pointer (some b))).run P w = .ok (.bool true) w := by
  obtain ⟨j, hj, hz⟩ := Option.map_eq_some_iff.1 hte
  have hsz : j.size ≠ 0 := by omega
  have h : ∀ d : Nat, (Op.equalIn (d + 1) tp (.pointer (some a)) (.pointer (some b))).run P w = .ok false w := fun d => by
    simp [Op.equalIn, run_underlying hp, sizeOf, typeInfo, hj, hsz, run_sameAddr_other w hne ha hb]
  simp only [binOp]
  simp [Op.equal, Op.maxDepth, h 9999]
theorem inrHz : (Try.prog.info? 98).map (·.size) = some (4 + 1) := by kernel_rfl
/-- How deep a node is, as it lies. -/
def dptV (v : Value) (w : World) : Nat := match v with
  | .pointer (some a) => match w.cell? ⟨a.block, 2, none⟩ with
    | some v' => (intOf v').toNat
    | none => 0
  | _ => 0
section
variable {B : Nat} {w w' : World} {p : Tp} {s : Tr}
theorem TM.dpt (h : TM B w p s) {i : Nat} (hi : i < s.nn) : dptV (.pointer (some ⟨p.ib i, 0, none⟩)) w = (s.nd i).pa.length := by
  unfold dptV
  simp only []
  rw [h.n2 hi]
  simp [intOf]
theorem TM.ibn (h : TM B w p s) {i j : Nat} (hi : i < s.nn) (hj : j < s.nn) (hne : i ≠ j) : p.ib i ≠ p.ib j := fun e1 => by
  have a := h.n4 hi
  have b := h.n4 hj
  rw [e1, b] at a
  injection a with a; injection a with a; injection a with a
  exact hne (h.mi i j hi hj a.symm)
set_option maxRecDepth 100000 in
set_option maxHeartbeats 8000000 in
theorem lowest_any (h : TM B w p s) (W : s.Wf) {a b r : Nat} (ha : a < s.nl) (hb : b < s.nl) (hr : s.low a b r) :
    Calls Try.prog 61 #[.pointer (some ⟨p.fb a, 0, none⟩), .pointer (some ⟨p.fb b, 0, none⟩)] w fun e w' => e = .returned (.pointer (some ⟨p.ib r, 0, none⟩)) ∧ Below w.heap.size w w' := by
  obtain ⟨ra, rb⟩ := Tr.low_abv hr
  have la : 0 < (s.lf a).pa.length := by obtain ⟨-, x, q, e⟩ := ra; rw [e, List.length_append, List.length_cons]; omega
  have lb : 0 < (s.lf b).pa.length := by obtain ⟨-, x, q, e⟩ := rb; rw [e, List.length_append, List.length_cons]; omega
  obtain ⟨u, u1, u2⟩ := W.start ha la
  obtain ⟨v, v1, v2⟩ := W.start hb lb
  have fa := h.f0 ha
  have fb := h.f0 hb
  rw [u1] at fa
  rw [v1] at fb
  unfold Tp.upV at fa fb
  rw [Option.map_some] at fa fb
  have HH := hide h
  have HW := hide W
  have HR := hide hr
  have HU := hide u2
  have HV := hide v2
  -- where the lowest one is
  have hup : ∀ n, s.abv n a → (s.nd r).pa.length ≤ (s.nd n).pa.length → (s.nd r).pa <+: (s.nd n).pa := fun n hn hl => Tr.abv_pre hn ra hl
  have hup2 : ∀ n, s.abv n b → (s.nd r).pa.length ≤ (s.nd n).pa.length → (s.nd r).pa <+: (s.nd n).pa := fun n hn hl => Tr.abv_pre hn rb hl
  have lu : (s.nd r).pa.length ≤ (s.nd u).pa.length := by
    obtain ⟨-, x, q, e⟩ := ra
    have e' : (s.lf a).pa = (s.nd u).pa ++ [((s.nd u).wd, s.anN (.inr a))] := (W.up1 (.inr a) u ha u1).1
    have := congrArg List.length (e.symm.trans e')
    simp at this; omega
  have lv : (s.nd r).pa.length ≤ (s.nd v).pa.length := by
    obtain ⟨-, x, q, e⟩ := rb
    have e' : (s.lf b).pa = (s.nd v).pa ++ [((s.nd v).wd, s.anN (.inr b))] := (W.up1 (.inr b) v hb v1).1
    have := congrArg List.length (e.symm.trans e')
    simp at this; omega
  have HLU := hide lu
  have HLV := hide lv
  have H1 := hide hup
  have H2 := hide hup2
  clear h W hr ra rb la lb u1 u2 v1 v2 hup hup2 lu lv
  go_enter Try.func61, Try.ntmps61
  go_wp2
  go_region
  go_wp2
  go_loopw [5, 6] (fun x y wr => ∃ n m : Nat, x = .pointer (some ⟨p.ib n, 0, none⟩) ∧ y = .pointer (some ⟨p.ib m, 0, none⟩) ∧ Hid (s.abv n a) ∧ Hid (s.abv m b) ∧ Hid ((s.nd r).pa.length ≤ (s.nd n).pa.length) ∧ Hid ((s.nd r).pa.length ≤ (s.nd m).pa.length) ∧ Below w.heap.size w wr) (fun x y wr => dptV x wr + dptV y wr)
  case atStart => exact ⟨u, v, rfl, rfl, HU, HV, HLU, HLV, (Below.refl _ _).drew⟩
  case round =>
    obtain ⟨n, m, rfl, rfl, HA, HB, HL1, HL2, hB⟩ := hrel
    have hh := (unhide HH).below hB
    have hn := (unhide HA).1
    have hm := (unhide HB).1
    by_cases c : n = m
    · subst c
      have e : n = r := (unhide HW).lowOne (unhide HR) (unhide HA) (unhide HB) (unhide H1 n (unhide HA) (unhide HL1))
      subst e
      have hcmp := neqp_same wr ⟨p.ib n, 0, none⟩ Try.underlying86 inrHz
      go_wp2
      go_ret
      exact ⟨rfl, hB⟩
    · have hib := hh.ibn hn hm c
      have q1 := hh.n2 hn
      have q2 := hh.n2 hm
      have m1 := hh.dpt hn
      have m2 := hh.dpt hm
      have o1 := hh.n0 hn
      have o2 := hh.n0 hm
      have hcmp := neqp_other wr (a := ⟨p.ib n, 0, none⟩) (b := ⟨p.ib m, 0, none⟩) Try.underlying86 inrHz (fun e => hib (by injection e)) (hh.nd n hn) (hh.nd m hm)
      have HHH := hide hh
      clear hh
      by_cases d : (s.nd m).pa.length ≤ (s.nd n).pa.length
      · have hlt : 0 < (s.nd n).pa.length := by
          rcases Nat.lt_or_ge (s.nd r).pa.length (s.nd n).pa.length with g | g
          · omega
          · exfalso
            have e1 : n = r := by
              have hp := unhide H1 n (unhide HA) (unhide HL1)
              exact (unhide HW).lowOne (unhide HR) (unhide HA) (by
                have := hp.eq_of_length_le g
                have e2 := (unhide HW).one _ (.inl n) (.inl r) rfl hn (unhide HR).1 this.symm
                injection e2 with e2
                rw [e2]; exact (Tr.low_abv (unhide HR)).2) hp
            have e2 : m = r := by
              have hp := unhide H2 m (unhide HB) (unhide HL2)
              have := hp.eq_of_length_le (by omega)
              have e2 := (unhide HW).one _ (.inl m) (.inl r) rfl hm (unhide HR).1 this.symm
              injection e2
            exact c (e1.trans e2.symm)
        have hltr : (s.nd r).pa.length < (s.nd n).pa.length := by
          rcases Nat.lt_or_ge (s.nd r).pa.length (s.nd n).pa.length with g | g
          · exact g
          · exfalso
            have e1 : n = r := by
              have hp := unhide H1 n (unhide HA) (unhide HL1)
              have := hp.eq_of_length_le g
              have e2 := (unhide HW).one _ (.inl n) (.inl r) rfl hn (unhide HR).1 this.symm
              injection e2
            have e2 : m = r := by
              have hp := unhide H2 m (unhide HB) (unhide HL2)
              have := hp.eq_of_length_le (by omega)
              have e2 := (unhide HW).one _ (.inl m) (.inl r) rfl hm (unhide HR).1 this.symm
              injection e2
            exact c (e1.trans e2.symm)
        obtain ⟨u', e1, e2, e3⟩ := (unhide HW).climb (unhide HA) hlt
        rw [e1] at o1
        unfold Tp.upV at o1
        rw [Option.map_some] at o1
        have d' : ((s.nd m).pa.length : Int) ≤ ((s.nd n).pa.length : Int) := by omega
        have HE2 := hide e2
        have hu' := e2.1
        clear o2 e1 e2 d
        go_wp2
        go_region
        go_wp2
        go_roundw
        case rel => exact ⟨u', m, rfl, rfl, HE2, HB, hide (by omega), HL2, by first | exact hB.drew | exact hB⟩
        case measure =>
          have a1 := (unhide HHH).drew.dpt hu'
          have a2 := (unhide HHH).drew.dpt hm
          rw [m1, m2]
          first | (rw [a1, a2]; omega) | (rw [(unhide HHH).dpt hu']; omega)
      · have hltr : (s.nd r).pa.length < (s.nd m).pa.length := by have := unhide HL1; omega
        obtain ⟨u', e1, e2, e3⟩ := (unhide HW).climb (unhide HB) (by omega)
        rw [e1] at o2
        unfold Tp.upV at o2
        rw [Option.map_some] at o2
        have d' : ((s.nd n).pa.length : Int) < ((s.nd m).pa.length : Int) := by omega
        have HE2 := hide e2
        have hu' := e2.1
        clear o1 e1 e2 d
        go_wp2
        go_region
        go_wp2
        go_roundw
        case rel => exact ⟨n, u', rfl, rfl, HA, HE2, HL1, hide (by omega), by first | exact hB.drew | exact hB⟩
        case measure =>
          have a1 := (unhide HHH).drew.dpt hu'
          have a2 := (unhide HHH).drew.dpt hn
          rw [m1, m2]
          first | (rw [a1, a2]; omega) | (rw [(unhide HHH).dpt hu']; omega)
end

end Go.Proofs.Ytlcablkhomnieaa

/-
  A statement of the program's tree whose order is open: Common's.
-/
namespace Go.Proofs.Ytlcablkhomnieaa
set_option linter.unusedVariables false
open Go.RowKit

theorem idxRl {w : World} {g i L c : Nat} (h : i < L) : (Instr.indexAt 81 (.slice (some ⟨g, 0, none⟩) L c) (.int .i64 (i : Int))).run Try.prog w = .ok (.pointer (some ⟨g, i, none⟩)) w := by
  have h1 : (i : Int) < (L : Int) := by omega
  go_simp
def cm0 : Oper := { dst := some 26, op := Op.move (Operand.tmp 0), type := 25, pos := "tree.go:137", after := #[], guard := none }
def cm1 : Oper := { dst := some 27, op := Op.nilCheck (Operand.tmp 26), type := 0, pos := "tree.go:137", after := #[{ on := 0, ground := Ground.data }], guard := none }
def cm2 : Oper := { dst := some 28, op := Op.fieldAddr 83 (Operand.tmp 27) 4, type := 0, pos := "tree.go:137", after := #[{ on := 1, ground := Ground.data }], guard := none }
def cm3 : Oper := { dst := some 29, op := Op.load 81 (Operand.tmp 28), type := 81, pos := "tree.go:137", after := #[{ on := 2, ground := Ground.data }], guard := none }
def cm4 : Oper := { dst := some 30, op := Op.move (Operand.tmp 1), type := 3, pos := "tree.go:137", after := #[], guard := none }
def cm5 : Oper := { dst := some 31, op := Op.indexAddr 81 (Operand.tmp 29) (Operand.tmp 30), type := 0, pos := "tree.go:137", after := #[{ on := 3, ground := Ground.data }, { on := 4, ground := Ground.data }], guard := none }
def cm6 : Oper := { dst := some 32, op := Op.load 84 (Operand.tmp 31), type := 84, pos := "tree.go:137", after := #[{ on := 5, ground := Ground.data }], guard := none }
def cm7 : Oper := { dst := some 33, op := Op.move (Operand.tmp 0), type := 25, pos := "tree.go:137", after := #[], guard := none }
def cm8 : Oper := { dst := some 34, op := Op.nilCheck (Operand.tmp 33), type := 0, pos := "tree.go:137", after := #[{ on := 7, ground := Ground.data }], guard := none }
def cm9 : Oper := { dst := some 35, op := Op.fieldAddr 83 (Operand.tmp 34) 4, type := 0, pos := "tree.go:137", after := #[{ on := 8, ground := Ground.data }], guard := none }
def cm10 : Oper := { dst := some 36, op := Op.load 81 (Operand.tmp 35), type := 81, pos := "tree.go:137", after := #[{ on := 9, ground := Ground.data }], guard := none }
def cm11 : Oper := { dst := some 37, op := Op.move (Operand.tmp 2), type := 3, pos := "tree.go:137", after := #[], guard := none }
def cm12 : Oper := { dst := some 38, op := Op.indexAddr 81 (Operand.tmp 36) (Operand.tmp 37), type := 0, pos := "tree.go:137", after := #[{ on := 10, ground := Ground.data }, { on := 11, ground := Ground.data }], guard := none }
def cm13 : Oper := { dst := some 39, op := Op.load 84 (Operand.tmp 38), type := 84, pos := "tree.go:137", after := #[{ on := 12, ground := Ground.data }], guard := none }
def cm14 : Oper := { dst := some 40, op := Op.call { callee := Callee.value (Operand.func 61), args := #[Operand.tmp 32, Operand.tmp 39], argTypes := #[84, 84] }, type := 86, pos := "tree.go:137", after := #[{ on := 6, ground := Ground.data }, { on := 13, ground := Ground.data }], guard := none }
def cm15 : Oper := { dst := some 41, op := Op.nilCheck (Operand.tmp 40), type := 0, pos := "tree.go:137", after := #[{ on := 14, ground := Ground.data }], guard := none }
def cm16 : Oper := { dst := some 42, op := Op.fieldAddr 98 (Operand.tmp 41) 1, type := 0, pos := "tree.go:137", after := #[{ on := 15, ground := Ground.data }], guard := none }
def cm17 : Oper := { dst := some 43, op := Op.load 29 (Operand.tmp 42), type := 29, pos := "tree.go:137", after := #[{ on := 16, ground := Ground.data }], guard := none }
def cm18 : Oper := { dst := some 44, op := Op.buildSlice 32 1 #[(0, Operand.tmp 43)], type := 32, pos := "tree.go:137", after := #[{ on := 17, ground := Ground.data }], guard := none }
def cm19 : Oper := { dst := some 45, op := Op.call { callee := Callee.value (Operand.func 41), args := #[Operand.tmp 44], argTypes := #[32] }, type := 29, pos := "tree.go:137", after := #[{ on := 18, ground := Ground.data }, { on := 14, ground := Ground.chain }], guard := none }
def cm20 : Oper := { dst := some 6, op := Op.assign (Operand.tmp 45), type := 29, pos := "tree.go:137", after := #[{ on := 19, ground := Ground.data }, { on := 19, ground := Ground.chain }, { on := 0, ground := Ground.phase }, { on := 1, ground := Ground.phase }, { on := 2, ground := Ground.phase }, { on := 3, ground := Ground.phase }, { on := 4, ground := Ground.phase }, { on := 5, ground := Ground.phase }, { on := 6, ground := Ground.phase }, { on := 7, ground := Ground.phase }, { on := 8, ground := Ground.phase }, { on := 9, ground := Ground.phase }, { on := 10, ground := Ground.phase }, { on := 11, ground := Ground.phase }, { on := 12, ground := Ground.phase }, { on := 13, ground := Ground.phase }, { on := 14, ground := Ground.phase }, { on := 15, ground := Ground.phase }, { on := 16, ground := Ground.phase }, { on := 17, ground := Ground.phase }, { on := 18, ground := Ground.phase }, { on := 19, ground := Ground.phase }], guard := none }
def cm21 : Oper := { dst := some 7, op := Op.assign (Operand.const (Value.int IntKind.i64 0)), type := 26, pos := "tree.go:137", after := #[{ on := 20, ground := Ground.chain }, { on := 0, ground := Ground.phase }, { on := 1, ground := Ground.phase }, { on := 2, ground := Ground.phase }, { on := 3, ground := Ground.phase }, { on := 4, ground := Ground.phase }, { on := 5, ground := Ground.phase }, { on := 6, ground := Ground.phase }, { on := 7, ground := Ground.phase }, { on := 8, ground := Ground.phase }, { on := 9, ground := Ground.phase }, { on := 10, ground := Ground.phase }, { on := 11, ground := Ground.phase }, { on := 12, ground := Ground.phase }, { on := 13, ground := Ground.phase }, { on := 14, ground := Ground.phase }, { on := 15, ground := Ground.phase }, { on := 16, ground := Ground.phase }, { on := 17, ground := Ground.phase }, { on := 18, ground := Ground.phase }, { on := 19, ground := Ground.phase }, { on := 20, ground := Ground.phase }], guard := none }
def cmOps : Array Oper := #[cm0, cm1, cm2, cm3, cm4, cm5, cm6, cm7, cm8, cm9, cm10, cm11, cm12, cm13, cm14, cm15, cm16, cm17, cm18, cm19, cm20, cm21]

def cmT (N b na nb g L lc fa fb q : Nat) (aw : Option Addr) (cw : Nat) (l : List Int) : Nat → Value → World → Prop
  | 0, v, _ => v = .pointer (some ⟨b, 0, none⟩)
  | 1, v, _ => v = .pointer (some ⟨b, 0, none⟩)
  | 2, v, _ => v = .pointer (some ⟨b, 4, none⟩)
  | 3, v, _ => v = .slice (some ⟨g, 0, none⟩) L lc
  | 4, v, _ => v = .int .i64 (na : Int)
  | 5, v, _ => v = .pointer (some ⟨g, na, none⟩)
  | 6, v, _ => v = .pointer (some ⟨fa, 0, none⟩)
  | 7, v, _ => v = .pointer (some ⟨b, 0, none⟩)
  | 8, v, _ => v = .pointer (some ⟨b, 0, none⟩)
  | 9, v, _ => v = .pointer (some ⟨b, 4, none⟩)
  | 10, v, _ => v = .slice (some ⟨g, 0, none⟩) L lc
  | 11, v, _ => v = .int .i64 (nb : Int)
  | 12, v, _ => v = .pointer (some ⟨g, nb, none⟩)
  | 13, v, _ => v = .pointer (some ⟨fb, 0, none⟩)
  | 14, v, _ => v = .pointer (some ⟨q, 0, none⟩)
  | 15, v, _ => v = .pointer (some ⟨q, 0, none⟩)
  | 16, v, _ => v = .pointer (some ⟨q, 3, none⟩)
  | 17, v, _ => v = .slice aw l.length cw
  | 18, v, W => ∃ z, v = .slice (some ⟨z, 0, none⟩) 1 1 ∧ W.cell? ⟨z, 0, none⟩ = some (.slice aw l.length cw)
  | 19, v, W => ∃ a1 c1, v = .slice a1 l.length c1 ∧ OwnL .i64 3 W N (.slice a1 l.length c1) l
  | 20, v, W => ∃ a1 c1, v = .slice a1 l.length c1 ∧ OwnL .i64 3 W N (.slice a1 l.length c1) l
  | 21, v, _ => v = .int .i64 0
  | _, _, _ => True
theorem cmT_below (N b na nb g L lc fa fb q : Nat) (aw : Option Addr) (cw : Nat) (l : List Int) {v : Value} {W W' : World} (hb : Below W.heap.size W W') : ∀ {i : Nat}, cmT N b na nb g L lc fa fb q aw cw l i v W → cmT N b na nb g L lc fa fb q aw cw l i v W'
  | 0, h => h
  | 1, h => h
  | 2, h => h
  | 3, h => h
  | 4, h => h
  | 5, h => h
  | 6, h => h
  | 7, h => h
  | 8, h => h
  | 9, h => h
  | 10, h => h
  | 11, h => h
  | 12, h => h
  | 13, h => h
  | 14, h => h
  | 15, h => h
  | 16, h => h
  | 17, h => h
  | 18, h => by obtain ⟨z, e, h1⟩ := h; exact ⟨z, e, (hb.cell (World.block_lt_of_cell? _ _ h1)).trans h1⟩
  | 19, h => by obtain ⟨a1, c1, e, h1⟩ := h; exact ⟨a1, c1, e, h1.grown hb⟩
  | 20, h => by obtain ⟨a1, c1, e, h1⟩ := h; exact ⟨a1, c1, e, h1.grown hb⟩
  | 21, h => h
  | _ + 22, h => h
set_option maxRecDepth 100000 in
set_option maxHeartbeats 1000000 in
theorem cm_ok : okG cmOps [26, 27, 28, 29, 30, 31, 32, 33, 34, 35, 36, 37, 38, 39, 40, 41, 42, 43, 44, 45, 6, 7] = true := by kernel_rfl
set_option maxRecDepth 100000 in
set_option maxHeartbeats 8000000 in
theorem cm_core {Q : Exit → Act → World → Prop} (W : World) (N b na nb g L lc fa fb q : Nat) (aw : Option Addr) (cw : Nat) (l : List Int) (a0 : Act) (hs0 : a0.tmps.size = 46) (eY0 : a0.eval (.tmp 0) = .pointer (some ⟨b, 0, none⟩)) (eY1 : a0.eval (.tmp 1) = .int .i64 (na : Int)) (eY2 : a0.eval (.tmp 2) = .int .i64 (nb : Int))
    (lna : na < L) (lnb : nb < L) (h4 : W.cell? ⟨b, 4, none⟩ = some (.slice (some ⟨g, 0, none⟩) L lc)) (hna : W.cell? ⟨g, na, none⟩ = some (.pointer (some ⟨fa, 0, none⟩))) (hnb : W.cell? ⟨g, nb, none⟩ = some (.pointer (some ⟨fb, 0, none⟩))) (h3 : W.cell? ⟨q, 3, none⟩ = some (.slice aw l.length cw))
    (hL : ∀ X, Below W.heap.size W X → Calls Try.prog 61 #[.pointer (some ⟨fa, 0, none⟩), .pointer (some ⟨fb, 0, none⟩)] X fun e X' => e = .returned (.pointer (some ⟨q, 0, none⟩)) ∧ Below X.heap.size X X')
    (hN : N = W.heap.size) (hJ : ∀ X g, Below W.heap.size W X → X.cell? ⟨g, 0, none⟩ = some (.slice aw l.length cw) → Calls Try.prog 41 #[.slice (some ⟨g, 0, none⟩) 1 1] X fun e X' => ∃ a1 c1, e = .returned (.slice a1 l.length c1) ∧ OwnL .i64 3 X' X.heap.size (.slice a1 l.length c1) l ∧ Below X.heap.size X X')
    (fin : ∀ a X, EInv a0 W 22 (fun i => [26, 27, 28, 29, 30, 31, 32, 33, 34, 35, 36, 37, 38, 39, 40, 41, 42, 43, 44, 45, 6, 7].getD i 0) (cmT N b na nb g L lc fa fb q aw cw l) (fun _ => True) a X → Q .normal a X) :
    (Code.region 7 cmOps true).wp Try.prog Q a0 W := by
  refine wp_region_guard (by kernel_rfl) a0 W 22 (fun i => [26, 27, 28, 29, 30, 31, 32, 33, 34, 35, 36, 37, 38, 39, 40, 41, 42, 43, 44, 45, 6, 7].getD i 0) (cmT N b na nb g L lc fa fb q aw cw l) rfl (fun _ _ _ _ h hb => cmT_below N b na nb g L lc fa fb q aw cw l hb h) (by decide) (fun i hi => by rw [hs0]; exact (show ∀ i, i < 22 → [26, 27, 28, 29, 30, 31, 32, 33, 34, 35, 36, 37, 38, 39, 40, 41, 42, 43, 44, 45, 6, 7].getD i 0 < 46 by decide) i hi) (hdG_of cm_ok) ?_ fin
  intro j o ho a X E haft KK hKK
  have hj : j < 22 := (Array.getElem?_eq_some_iff.1 ho).1
  have hsz : a.tmps.size = 46 := E.sz.trans hs0
  have fY0 : a.eval (.tmp 0) = .pointer (some ⟨b, 0, none⟩) := (E.ag 0 (by decide)).trans eY0
  have fY1 : a.eval (.tmp 1) = .int .i64 (na : Int) := (E.ag 1 (by decide)).trans eY1
  have fY2 : a.eval (.tmp 2) = .int .i64 (nb : Int) := (E.ag 2 (by decide)).trans eY2
  have r := Below.refl X.heap.size X
  have bl := E.bl
  clear E fin
  rcases (by omega : j = 0 ∨ j = 1 ∨ j = 2 ∨ j = 3 ∨ j = 4 ∨ j = 5 ∨ j = 6 ∨ j = 7 ∨ j = 8 ∨ j = 9 ∨ j = 10 ∨ j = 11 ∨ j = 12 ∨ j = 13 ∨ j = 14 ∨ j = 15 ∨ j = 16 ∨ j = 17 ∨ j = 18 ∨ j = 19 ∨ j = 20 ∨ j = 21) with rfl | rfl | rfl | rfl | rfl | rfl | rfl | rfl | rfl | rfl | rfl | rfl | rfl | rfl | rfl | rfl | rfl | rfl | rfl | rfl | rfl | rfl
  · obtain rfl : cm0 = o := Option.some.inj ho
    refine wpOp_on ho (wanted_none rfl) ?_
    exact wp_valueZ (v := .pointer (some ⟨b, 0, none⟩)) (w' := X) (by simp [execOp, cm0, fY0]) (hKK _ _ r rfl)
  · obtain rfl : cm1 = o := Option.some.inj ho
    refine wpOp_on ho (wanted_none rfl) ?_
    have d0 : a.eval (.tmp 26) = .pointer (some ⟨b, 0, none⟩) := haft ⟨0, .data⟩ (by simp [cm1]) rfl
    exact wp_valueZ (v := .pointer (some ⟨b, 0, none⟩)) (w' := X) (by simp [execOp, cm1, d0]) (hKK _ _ r rfl)
  · obtain rfl : cm2 = o := Option.some.inj ho
    refine wpOp_on ho (wanted_none rfl) ?_
    have d0 : a.eval (.tmp 27) = .pointer (some ⟨b, 0, none⟩) := haft ⟨1, .data⟩ (by simp [cm2]) rfl
    exact wp_valueZ (v := .pointer (some ⟨b, 4, none⟩)) (w' := X) (by simp [execOp, cm2, d0, fldR4]) (hKK _ _ r rfl)
  · obtain rfl : cm3 = o := Option.some.inj ho
    refine wpOp_on ho (wanted_none rfl) ?_
    have d0 : a.eval (.tmp 28) = .pointer (some ⟨b, 4, none⟩) := haft ⟨2, .data⟩ (by simp [cm3]) rfl
    have q := (bl.cell (p := ⟨b, 4, none⟩) (World.block_lt_of_cell? W _ h4)).trans h4
    exact wp_valueZ (v := .slice (some ⟨g, 0, none⟩) L lc) (w' := X) (by simp [execOp, cm3, d0, ldRl q]) (hKK _ _ r rfl)
  · obtain rfl : cm4 = o := Option.some.inj ho
    refine wpOp_on ho (wanted_none rfl) ?_
    exact wp_valueZ (v := .int .i64 (na : Int)) (w' := X) (by simp [execOp, cm4, fY1]) (hKK _ _ r rfl)
  · obtain rfl : cm5 = o := Option.some.inj ho
    refine wpOp_on ho (wanted_none rfl) ?_
    have d0 : a.eval (.tmp 29) = .slice (some ⟨g, 0, none⟩) L lc := haft ⟨3, .data⟩ (by simp [cm5]) rfl
    have d1 : a.eval (.tmp 30) = .int .i64 (na : Int) := haft ⟨4, .data⟩ (by simp [cm5]) rfl
    exact wp_valueZ (v := .pointer (some ⟨g, na, none⟩)) (w' := X) (by simp [execOp, cm5, d0, d1, idxRl lna]) (hKK _ _ r rfl)
  · obtain rfl : cm6 = o := Option.some.inj ho
    refine wpOp_on ho (wanted_none rfl) ?_
    have d0 : a.eval (.tmp 31) = .pointer (some ⟨g, na, none⟩) := haft ⟨5, .data⟩ (by simp [cm6]) rfl
    have q := (bl.cell (p := ⟨g, na, none⟩) (World.block_lt_of_cell? W _ hna)).trans hna
    exact wp_valueZ (v := .pointer (some ⟨fa, 0, none⟩)) (w' := X) (by simp [execOp, cm6, d0, ldLf q]) (hKK _ _ r rfl)
  · obtain rfl : cm7 = o := Option.some.inj ho
    refine wpOp_on ho (wanted_none rfl) ?_
    exact wp_valueZ (v := .pointer (some ⟨b, 0, none⟩)) (w' := X) (by simp [execOp, cm7, fY0]) (hKK _ _ r rfl)
  · obtain rfl : cm8 = o := Option.some.inj ho
    refine wpOp_on ho (wanted_none rfl) ?_
    have d0 : a.eval (.tmp 33) = .pointer (some ⟨b, 0, none⟩) := haft ⟨7, .data⟩ (by simp [cm8]) rfl
    exact wp_valueZ (v := .pointer (some ⟨b, 0, none⟩)) (w' := X) (by simp [execOp, cm8, d0]) (hKK _ _ r rfl)
  · obtain rfl : cm9 = o := Option.some.inj ho
    refine wpOp_on ho (wanted_none rfl) ?_
    have d0 : a.eval (.tmp 34) = .pointer (some ⟨b, 0, none⟩) := haft ⟨8, .data⟩ (by simp [cm9]) rfl
    exact wp_valueZ (v := .pointer (some ⟨b, 4, none⟩)) (w' := X) (by simp [execOp, cm9, d0, fldR4]) (hKK _ _ r rfl)
  · obtain rfl : cm10 = o := Option.some.inj ho
    refine wpOp_on ho (wanted_none rfl) ?_
    have d0 : a.eval (.tmp 35) = .pointer (some ⟨b, 4, none⟩) := haft ⟨9, .data⟩ (by simp [cm10]) rfl
    have q := (bl.cell (p := ⟨b, 4, none⟩) (World.block_lt_of_cell? W _ h4)).trans h4
    exact wp_valueZ (v := .slice (some ⟨g, 0, none⟩) L lc) (w' := X) (by simp [execOp, cm10, d0, ldRl q]) (hKK _ _ r rfl)
  · obtain rfl : cm11 = o := Option.some.inj ho
    refine wpOp_on ho (wanted_none rfl) ?_
    exact wp_valueZ (v := .int .i64 (nb : Int)) (w' := X) (by simp [execOp, cm11, fY2]) (hKK _ _ r rfl)
  · obtain rfl : cm12 = o := Option.some.inj ho
    refine wpOp_on ho (wanted_none rfl) ?_
    have d0 : a.eval (.tmp 36) = .slice (some ⟨g, 0, none⟩) L lc := haft ⟨10, .data⟩ (by simp [cm12]) rfl
    have d1 : a.eval (.tmp 37) = .int .i64 (nb : Int) := haft ⟨11, .data⟩ (by simp [cm12]) rfl
    exact wp_valueZ (v := .pointer (some ⟨g, nb, none⟩)) (w' := X) (by simp [execOp, cm12, d0, d1, idxRl lnb]) (hKK _ _ r rfl)
  · obtain rfl : cm13 = o := Option.some.inj ho
    refine wpOp_on ho (wanted_none rfl) ?_
    have d0 : a.eval (.tmp 38) = .pointer (some ⟨g, nb, none⟩) := haft ⟨12, .data⟩ (by simp [cm13]) rfl
    have q := (bl.cell (p := ⟨g, nb, none⟩) (World.block_lt_of_cell? W _ hnb)).trans hnb
    exact wp_valueZ (v := .pointer (some ⟨fb, 0, none⟩)) (w' := X) (by simp [execOp, cm13, d0, ldLf q]) (hKK _ _ r rfl)
  · obtain rfl : cm14 = o := Option.some.inj ho
    refine wpOp_on ho (wanted_none rfl) ?_
    have d6 : a.eval (.tmp 32) = .pointer (some ⟨fa, 0, none⟩) := haft ⟨6, .data⟩ (by simp [cm14]) rfl
    have d13 : a.eval (.tmp 39) = .pointer (some ⟨fb, 0, none⟩) := haft ⟨13, .data⟩ (by simp [cm14]) rfl
    refine wp_enterZ (run_call2Z rfl (enters_of Try.func61 (by kernel_rfl) rfl) d6 d13) (hL X bl) ?_
    rintro e X' ⟨rfl, hb⟩
    exact ⟨_, rfl, hKK _ _ hb rfl⟩
  · obtain rfl : cm15 = o := Option.some.inj ho
    refine wpOp_on ho (wanted_none rfl) ?_
    have d0 : a.eval (.tmp 40) = .pointer (some ⟨q, 0, none⟩) := haft ⟨14, .data⟩ (by simp [cm15]) rfl
    exact wp_valueZ (v := .pointer (some ⟨q, 0, none⟩)) (w' := X) (by simp [execOp, cm15, d0]) (hKK _ _ r rfl)
  · obtain rfl : cm16 = o := Option.some.inj ho
    refine wpOp_on ho (wanted_none rfl) ?_
    have d0 : a.eval (.tmp 41) = .pointer (some ⟨q, 0, none⟩) := haft ⟨15, .data⟩ (by simp [cm16]) rfl
    exact wp_valueZ (v := .pointer (some ⟨q, 3, none⟩)) (w' := X) (by simp [execOp, cm16, d0, fldI1]) (hKK _ _ r rfl)
  · obtain rfl : cm17 = o := Option.some.inj ho
    refine wpOp_on ho (wanted_none rfl) ?_
    have d0 : a.eval (.tmp 42) = .pointer (some ⟨q, 3, none⟩) := haft ⟨16, .data⟩ (by simp [cm17]) rfl
    have q := (bl.cell (p := ⟨q, 3, none⟩) (World.block_lt_of_cell? W _ h3)).trans h3
    exact wp_valueZ (v := .slice aw l.length cw) (w' := X) (by simp [execOp, cm17, d0, ldRi q]) (hKK _ _ r rfl)
  · obtain rfl : cm18 = o := Option.some.inj ho
    refine wpOp_on ho (wanted_none rfl) ?_
    have d17 : a.eval (.tmp 43) = .slice aw l.length cw := haft ⟨17, .data⟩ (by simp [cm18]) rfl
    exact wp_valueZ (v := .slice (some ⟨X.heap.size, 0, none⟩) 1 1) (w' := X.alloc (.cells #[.slice aw l.length cw] 29)) (by simp [execOp, cm18, d17, run_litJ]) (hKK _ _ (ballo _ _) ⟨_, rfl, by simp⟩)
  · obtain rfl : cm19 = o := Option.some.inj ho
    refine wpOp_on ho (wanted_none rfl) ?_
    obtain ⟨z, d0, d1⟩ : ∃ z, a.eval (.tmp 44) = .slice (some ⟨z, 0, none⟩) 1 1 ∧ X.cell? ⟨z, 0, none⟩ = some (.slice aw l.length cw) := haft ⟨18, .data⟩ (by simp [cm19]) rfl
    refine wp_enterZ (run_call1 rfl (enters_of Try.func41 (by kernel_rfl) rfl) d0) (hJ X z bl d1) ?_
    rintro e X' ⟨a1, c1, rfl, ho, hb⟩
    exact ⟨_, rfl, hKK _ _ hb ⟨a1, c1, rfl, ho.mono (by rw [hN]; exact bl.size)⟩⟩
  · obtain rfl : cm20 = o := Option.some.inj ho
    refine wpOp_on ho (wanted_none rfl) ?_
    obtain ⟨a1, c1, d19, d20⟩ : ∃ a1 c1, a.eval (.tmp 45) = .slice a1 l.length c1 ∧ OwnL .i64 3 X N (.slice a1 l.length c1) l := haft ⟨19, .data⟩ (by simp [cm20]) rfl
    exact wp_valueZ (v := .slice a1 l.length c1) (w' := X) (by simp [execOp, cm20, d19]) (hKK _ _ r ⟨a1, c1, rfl, d20⟩)
  · obtain rfl : cm21 = o := Option.some.inj ho
    refine wpOp_on ho (wanted_none rfl) ?_
    exact wp_valueZ (v := .int .i64 0) (w' := X) (by simp [execOp, cm21]; rfl) (hKK _ _ r rfl)
set_option maxRecDepth 100000 in
set_option maxHeartbeats 8000000 in
theorem cm_region {Q : Exit → Act → World → Prop} (W : World) (N b na nb g L lc fa fb q : Nat) (aw : Option Addr) (cw : Nat) (l : List Int) (ds : List Deferred) (t3 t4 t5 t6 t7 t8 t9 t10 t11 t12 t13 t14 t15 t16 t17 t18 t19 t20 t21 t22 t23 t24 t25 t26 t27 t28 t29 t30 t31 t32 t33 t34 t35 t36 t37 t38 t39 t40 t41 t42 t43 t44 t45 : Value)
    (lna : na < L) (lnb : nb < L) (h4 : W.cell? ⟨b, 4, none⟩ = some (.slice (some ⟨g, 0, none⟩) L lc)) (hna : W.cell? ⟨g, na, none⟩ = some (.pointer (some ⟨fa, 0, none⟩))) (hnb : W.cell? ⟨g, nb, none⟩ = some (.pointer (some ⟨fb, 0, none⟩))) (h3 : W.cell? ⟨q, 3, none⟩ = some (.slice aw l.length cw))
    (hL : ∀ X, Below W.heap.size W X → Calls Try.prog 61 #[.pointer (some ⟨fa, 0, none⟩), .pointer (some ⟨fb, 0, none⟩)] X fun e X' => e = .returned (.pointer (some ⟨q, 0, none⟩)) ∧ Below X.heap.size X X')
    (hN : N = W.heap.size) (hJ : ∀ X g, Below W.heap.size W X → X.cell? ⟨g, 0, none⟩ = some (.slice aw l.length cw) → Calls Try.prog 41 #[.slice (some ⟨g, 0, none⟩) 1 1] X fun e X' => ∃ a1 c1, e = .returned (.slice a1 l.length c1) ∧ OwnL .i64 3 X' X.heap.size (.slice a1 l.length c1) l ∧ Below X.heap.size X X')
    (fin : ∀ X (u26 u27 u28 u29 u30 u31 u32 u33 u34 u35 u36 u37 u38 u39 u40 u41 u42 u43 u44 u45 u6 : Value), Below W.heap.size W X → (∃ a1 c1, u6 = .slice a1 l.length c1 ∧ OwnL .i64 3 X N (.slice a1 l.length c1) l) → Q .normal ⟨#[.pointer (some ⟨b, 0, none⟩), .int .i64 (na : Int), .int .i64 (nb : Int), t3, t4, t5, u6, .int .i64 0, t8, t9, t10, t11, t12, t13, t14, t15, t16, t17, t18, t19, t20, t21, t22, t23, t24, t25, u26, u27, u28, u29, u30, u31, u32, u33, u34, u35, u36, u37, u38, u39, u40, u41, u42, u43, u44, u45], ds⟩ X) :
    (Code.region 7 cmOps true).wp Try.prog Q ⟨#[.pointer (some ⟨b, 0, none⟩), .int .i64 (na : Int), .int .i64 (nb : Int), t3, t4, t5, t6, t7, t8, t9, t10, t11, t12, t13, t14, t15, t16, t17, t18, t19, t20, t21, t22, t23, t24, t25, t26, t27, t28, t29, t30, t31, t32, t33, t34, t35, t36, t37, t38, t39, t40, t41, t42, t43, t44, t45], ds⟩ W := by
  obtain ⟨a0, ha0⟩ : ∃ a0 : Act, a0 = ⟨#[.pointer (some ⟨b, 0, none⟩), .int .i64 (na : Int), .int .i64 (nb : Int), t3, t4, t5, t6, t7, t8, t9, t10, t11, t12, t13, t14, t15, t16, t17, t18, t19, t20, t21, t22, t23, t24, t25, t26, t27, t28, t29, t30, t31, t32, t33, t34, t35, t36, t37, t38, t39, t40, t41, t42, t43, t44, t45], ds⟩ := ⟨_, rfl⟩
  have hs0 : a0.tmps.size = 46 := by rw [ha0]; rfl
  have hd0 : a0.defers = ds := by rw [ha0]
  have gY0 : a0.eval (.tmp 0) = .pointer (some ⟨b, 0, none⟩) := by rw [ha0]; rfl
  have gY1 : a0.eval (.tmp 1) = .int .i64 (na : Int) := by rw [ha0]; rfl
  have gY2 : a0.eval (.tmp 2) = .int .i64 (nb : Int) := by rw [ha0]; rfl
  have gY3 : a0.eval (.tmp 3) = t3 := by rw [ha0]; rfl
  have gY4 : a0.eval (.tmp 4) = t4 := by rw [ha0]; rfl
  have gY5 : a0.eval (.tmp 5) = t5 := by rw [ha0]; rfl
  have gY8 : a0.eval (.tmp 8) = t8 := by rw [ha0]; rfl
  have gY9 : a0.eval (.tmp 9) = t9 := by rw [ha0]; rfl
  have gY10 : a0.eval (.tmp 10) = t10 := by rw [ha0]; rfl
  have gY11 : a0.eval (.tmp 11) = t11 := by rw [ha0]; rfl
  have gY12 : a0.eval (.tmp 12) = t12 := by rw [ha0]; rfl
  have gY13 : a0.eval (.tmp 13) = t13 := by rw [ha0]; rfl
  have gY14 : a0.eval (.tmp 14) = t14 := by rw [ha0]; rfl
  have gY15 : a0.eval (.tmp 15) = t15 := by rw [ha0]; rfl
  have gY16 : a0.eval (.tmp 16) = t16 := by rw [ha0]; rfl
  have gY17 : a0.eval (.tmp 17) = t17 := by rw [ha0]; rfl
  have gY18 : a0.eval (.tmp 18) = t18 := by rw [ha0]; rfl
  have gY19 : a0.eval (.tmp 19) = t19 := by rw [ha0]; rfl
  have gY20 : a0.eval (.tmp 20) = t20 := by rw [ha0]; rfl
  have gY21 : a0.eval (.tmp 21) = t21 := by rw [ha0]; rfl
  have gY22 : a0.eval (.tmp 22) = t22 := by rw [ha0]; rfl
  have gY23 : a0.eval (.tmp 23) = t23 := by rw [ha0]; rfl
  have gY24 : a0.eval (.tmp 24) = t24 := by rw [ha0]; rfl
  have gY25 : a0.eval (.tmp 25) = t25 := by rw [ha0]; rfl
  rw [← ha0]
  refine cm_core W N b na nb g L lc fa fb q aw cw l a0 hs0 gY0 gY1 gY2 lna lnb h4 hna hnb h3 hL hN hJ ?_
  clear ha0
  intro a X E
  have hq := fin X (a.eval (.tmp 26)) (a.eval (.tmp 27)) (a.eval (.tmp 28)) (a.eval (.tmp 29)) (a.eval (.tmp 30)) (a.eval (.tmp 31)) (a.eval (.tmp 32)) (a.eval (.tmp 33)) (a.eval (.tmp 34)) (a.eval (.tmp 35)) (a.eval (.tmp 36)) (a.eval (.tmp 37)) (a.eval (.tmp 38)) (a.eval (.tmp 39)) (a.eval (.tmp 40)) (a.eval (.tmp 41)) (a.eval (.tmp 42)) (a.eval (.tmp 43)) (a.eval (.tmp 44)) (a.eval (.tmp 45)) (a.eval (.tmp 6)) E.bl (E.vs 20 (by decide) trivial)
  have ea : a = ⟨#[a.eval (.tmp 0), a.eval (.tmp 1), a.eval (.tmp 2), a.eval (.tmp 3), a.eval (.tmp 4), a.eval (.tmp 5), a.eval (.tmp 6), a.eval (.tmp 7), a.eval (.tmp 8), a.eval (.tmp 9), a.eval (.tmp 10), a.eval (.tmp 11), a.eval (.tmp 12), a.eval (.tmp 13), a.eval (.tmp 14), a.eval (.tmp 15), a.eval (.tmp 16), a.eval (.tmp 17), a.eval (.tmp 18), a.eval (.tmp 19), a.eval (.tmp 20), a.eval (.tmp 21), a.eval (.tmp 22), a.eval (.tmp 23), a.eval (.tmp 24), a.eval (.tmp 25), a.eval (.tmp 26), a.eval (.tmp 27), a.eval (.tmp 28), a.eval (.tmp 29), a.eval (.tmp 30), a.eval (.tmp 31), a.eval (.tmp 32), a.eval (.tmp 33), a.eval (.tmp 34), a.eval (.tmp 35), a.eval (.tmp 36), a.eval (.tmp 37), a.eval (.tmp 38), a.eval (.tmp 39), a.eval (.tmp 40), a.eval (.tmp 41), a.eval (.tmp 42), a.eval (.tmp 43), a.eval (.tmp 44), a.eval (.tmp 45)], a.defers⟩ := act_eta a 46 (E.sz.trans hs0)
  rw [ea, E.df, hd0]
  have kY0 : a.eval (.tmp 0) = .pointer (some ⟨b, 0, none⟩) := (E.ag 0 (by decide)).trans gY0
  have kY1 : a.eval (.tmp 1) = .int .i64 (na : Int) := (E.ag 1 (by decide)).trans gY1
  have kY2 : a.eval (.tmp 2) = .int .i64 (nb : Int) := (E.ag 2 (by decide)).trans gY2
  have kY3 : a.eval (.tmp 3) = t3 := (E.ag 3 (by decide)).trans gY3
  have kY4 : a.eval (.tmp 4) = t4 := (E.ag 4 (by decide)).trans gY4
  have kY5 : a.eval (.tmp 5) = t5 := (E.ag 5 (by decide)).trans gY5
  have kY7 : a.eval (.tmp 7) = .int .i64 0 := E.vs 21 (by decide) trivial
  have kY8 : a.eval (.tmp 8) = t8 := (E.ag 8 (by decide)).trans gY8
  have kY9 : a.eval (.tmp 9) = t9 := (E.ag 9 (by decide)).trans gY9
  have kY10 : a.eval (.tmp 10) = t10 := (E.ag 10 (by decide)).trans gY10
  have kY11 : a.eval (.tmp 11) = t11 := (E.ag 11 (by decide)).trans gY11
  have kY12 : a.eval (.tmp 12) = t12 := (E.ag 12 (by decide)).trans gY12
  have kY13 : a.eval (.tmp 13) = t13 := (E.ag 13 (by decide)).trans gY13
  have kY14 : a.eval (.tmp 14) = t14 := (E.ag 14 (by decide)).trans gY14
  have kY15 : a.eval (.tmp 15) = t15 := (E.ag 15 (by decide)).trans gY15
  have kY16 : a.eval (.tmp 16) = t16 := (E.ag 16 (by decide)).trans gY16
  have kY17 : a.eval (.tmp 17) = t17 := (E.ag 17 (by decide)).trans gY17
  have kY18 : a.eval (.tmp 18) = t18 := (E.ag 18 (by decide)).trans gY18
  have kY19 : a.eval (.tmp 19) = t19 := (E.ag 19 (by decide)).trans gY19
  have kY20 : a.eval (.tmp 20) = t20 := (E.ag 20 (by decide)).trans gY20
  have kY21 : a.eval (.tmp 21) = t21 := (E.ag 21 (by decide)).trans gY21
  have kY22 : a.eval (.tmp 22) = t22 := (E.ag 22 (by decide)).trans gY22
  have kY23 : a.eval (.tmp 23) = t23 := (E.ag 23 (by decide)).trans gY23
  have kY24 : a.eval (.tmp 24) = t24 := (E.ag 24 (by decide)).trans gY24
  have kY25 : a.eval (.tmp 25) = t25 := (E.ag 25 (by decide)).trans gY25
  rw [kY0, kY1, kY2, kY3, kY4, kY5, kY7, kY8, kY9, kY10, kY11, kY12, kY13, kY14, kY15, kY16, kY17, kY18, kY19, kY20, kY21, kY22, kY23, kY24, kY25]
  exact hq

end Go.Proofs.Ytlcablkhomnieaa

/-
  The program's tree: Common.
-/
namespace Go.Proofs.Ytlcablkhomnieaa
set_option linter.unusedVariables false
open Go.RowKit

section
variable {B : Nat} {w w' : World} {p : Tp} {s : Tr}
set_option maxRecDepth 100000 in
set_option maxHeartbeats 8000000 in
theorem common_ok (h : TM B w p s) (W : s.Wf) {a b r : Nat} (ha : a < s.nl) (hb : b < s.nl) (hne : a ≠ b) (hr : s.low a b r)
    (HLO : Hid (∀ X, Below w.heap.size w X → Calls Try.prog 61 #[.pointer (some ⟨p.fb a, 0, none⟩), .pointer (some ⟨p.fb b, 0, none⟩)] X fun e w' => e = .returned (.pointer (some ⟨p.ib r, 0, none⟩)) ∧ Below X.heap.size X w')) :
    Calls Try.prog 24 #[.pointer (some ⟨p.b, 0, none⟩), .int .i64 (a : Int), .int .i64 (b : Int)] w (AcP (s.nd r).wd 0 w) := by
  have h1 := has_any h (a : Int)
  have h2 := has_any h (b : Int)
  rw [decide_eq_true (⟨by omega, by omega⟩ : (0 : Int) ≤ a ∧ (a : Int) < (s.nl : Int))] at h1
  rw [decide_eq_true (⟨by omega, by omega⟩ : (0 : Int) ≤ b ∧ (b : Int) < (s.nl : Int))] at h2
  have t1 : ((a : Int) == (b : Int)) = false := by rw [beq_eq_false_iff_ne]; omega
  have c4 := h.c4
  obtain ⟨g, e1, e2, e3, e4⟩ := h.at ha
  rw [e1] at c4
  have ka := e4 a ha
  have kb := e4 b hb
  have hra := hr.1
  have han : (a : Int) < (s.nl : Int) := by omega
  have hbn : (b : Int) < (s.nl : Int) := by omega
  have n3 := h.n3 hra
  obtain ⟨-, s1, s2⟩ := own_nil (h.wd r hra)
  have hl := (W.wd r hra).2.1
  have HJ := hide fun (X : World) (g : Nat) (hX : Below w.heap.size w X) (hg : X.cell? ⟨g, 0, none⟩ = some (.slice (p.wa r) (s.nd r).wd.length (p.wc r))) => join1_any (p.wa r) (p.wc r) (s.nd r).wd g X hg (s2.below hX) s1 (by omega)
  clear h W hr e4 s2 han hbn
  generalize p.ib r = q at *
  generalize p.fb a = fa at *
  generalize p.fb b = fb at *
  generalize (s.nd r).wd = l at *
  go_enter Try.func24, Try.ntmps24
  go_wp2_with fail
  refine h1.mono ?_
  rintro e wn ⟨rfl, hwn⟩
  rw [hwn]
  clear hwn h1
  go_wp2_with fail
  refine h2.mono ?_
  rintro e wn ⟨rfl, hwn⟩
  rw [hwn]
  clear hwn h2
  go_wp2
  refine cm_region w w.heap.size p.b a b g s.nl p.lc fa fb q (p.wa r) (p.wc r) l _ _ _ _ _ _ _ _ _ _ _ _ _ _ _ _ _ _ _ _ _ _ _ _ _ _ _ _ _ _ _ _ _ _ _ _ _ _ _ _ _ _ _ _ ha hb c4 ka kb n3 (unhide HLO) rfl (unhide HJ) ?_
  rintro X u26 u27 u28 u29 u30 u31 u32 u33 u34 u35 u36 u37 u38 u39 u40 u41 u42 u43 u44 u45 u6 hX ⟨a1, c1, rfl, ho⟩
  have HP : Hid (AcP l 0 w (.returned (.tuple #[.slice a1 l.length c1, .int .i64 0])) X) := hide ⟨a1, c1, rfl, ho, hX⟩
  clear ho hX c4 ka kb n3 HLO HJ e1 e2 e3 s1 hl
  generalize l.length = L at *
  go_wp2
  go_ret2
  exact unhide HP
/-- Common's errors. -/
theorem common_state (h : TM B w p s) (x y : Int) (hx : ¬ (0 ≤ x ∧ x < (s.nl : Int)) ∨ ¬ (0 ≤ y ∧ y < (s.nl : Int))) : Calls Try.prog 24 #[.pointer (some ⟨p.b, 0, none⟩), .int .i64 x, .int .i64 y] w (AcP [] 32 w) := by
  have h1 := has_any h x
  have h2 := has_any h y
  clear h
  by_cases q : 0 ≤ x ∧ x < (s.nl : Int)
  · have q2 := hx.resolve_left (fun c => c q)
    rw [decide_eq_true q] at h1
    rw [decide_eq_false q2] at h2
    clear hx q q2
    go_enter Try.func24, Try.ntmps24
    go_wp2_with fail
    refine h1.mono ?_
    rintro e wn ⟨rfl, hwn⟩
    rw [hwn]
    clear hwn h1
    go_wp2_with fail
    refine h2.mono ?_
    rintro e wn ⟨rfl, hwn⟩
    rw [hwn]
    clear hwn h2
    go_wp2
    go_ret2
    exact ⟨none, 0, rfl, OwnL.nil _ _ _ _, Below.refl _ _⟩
  · rw [decide_eq_false q] at h1
    clear hx q h2
    go_enter Try.func24, Try.ntmps24
    go_wp2_with fail
    refine h1.mono ?_
    rintro e wn ⟨rfl, hwn⟩
    rw [hwn]
    clear hwn h1
    go_wp2
    go_ret2
    exact ⟨none, 0, rfl, OwnL.nil _ _ _ _, Below.refl _ _⟩
theorem common_one (h : TM B w p s) (x : Int) (hx : 0 ≤ x ∧ x < (s.nl : Int)) : Calls Try.prog 24 #[.pointer (some ⟨p.b, 0, none⟩), .int .i64 x, .int .i64 x] w (AcP [] 1 w) := by
  have h1 := has_any h x
  rw [decide_eq_true hx] at h1
  clear h hx
  go_enter Try.func24, Try.ntmps24
  go_wp2_with fail
  refine h1.mono ?_
  rintro e wn ⟨rfl, hwn⟩
  rw [hwn]
  clear hwn
  go_wp2_with fail
  refine h1.mono ?_
  rintro e wn ⟨rfl, hwn⟩
  rw [hwn]
  clear hwn h1
  go_wp2
  go_ret2
  exact ⟨none, 0, rfl, OwnL.nil _ _ _ _, Below.refl _ _⟩
end

end Go.Proofs.Ytlcablkhomnieaa

/-
  The program's tree: New.
-/
namespace Go.Proofs.Ytlcablkhomnieaa
set_option linter.unusedVariables false
open Go.RowKit

def tnE (kind k o : Int) : Int := if kind ≠ 1 ∧ kind ≠ 2 then 30 else if k < 1 ∨ 64 < k then 1 else if (kind = 1 ∧ o ≠ 2) ∨ o < 1 ∨ 64 < o then 33 else 0
/-- What New leaves. -/
def NtP (kind k o : Int) (w : World) (e : Ending) (w' : World) : Prop :=
  (tnE kind k o ≠ 0 ∧ e = .returned (.tuple #[.pointer none, .int .i64 (tnE kind k o)]) ∧ Below w.heap.size w w') ∨
  (tnE kind k o = 0 ∧ ∃ p, e = .returned (.tuple #[.pointer (some ⟨p.b, 0, none⟩), .int .i64 0]) ∧ TM w.heap.size w' p (trN kind k o) ∧ Below w.heap.size w w')
def pN (b : Nat) : Tp := ⟨b, none, 0, fun _ => 0, fun _ => 0, fun _ => 0, fun _ => none, fun _ => 0, fun _ => 0, fun _ => none, fun _ => 0, none, 0⟩
theorem TM.ini (w : World) (kind k o : Int) : TM w.heap.size (w.alloc (.cells #[.int .i64 kind, .int .i64 k, .int .i64 o, .nilIface, .slice none 0 0, .int .i64 0, .slice none 0 0, .nilIface] 83)) (pN w.heap.size) (tr0 kind k o) where
  o := Bk.new w [.int .i64 kind, .int .i64 k, .int .i64 o, .nilIface, .slice none 0 0, .int .i64 0, .slice none 0 0, .nilIface] 83
  nd i hi := absurd hi (Nat.not_lt_zero _)
  mp i hi := absurd hi (Nat.not_lt_zero _)
  wd i hi := absurd hi (Nat.not_lt_zero _)
  lf i hi := absurd hi (Nat.not_lt_zero _)
  ac i hi := absurd hi (Nat.not_lt_zero _)
  lv := OwnG.nil _ _
  sf := OwnL.nil _ _ _ _
  mi i j hi := absurd hi (Nat.not_lt_zero _)
  b0 := Nat.le_refl _
  b1 i hi := absurd hi (Nat.not_lt_zero _)
  b2 i hi := absurd hi (Nat.not_lt_zero _)
theorem ok0 (kind k o : Int) : (tr0 kind k o).Ok := ⟨fun i x n hi _ => absurd hi (Nat.not_lt_zero _), fun n h => (by cases h), fun n h => (by cases h), fun i u hi _ => absurd hi (Nat.not_lt_zero _), fun j u hj _ => absurd hj (Nat.not_lt_zero _)⟩
set_option maxRecDepth 100000 in
set_option maxHeartbeats 2000000 in
theorem tnew_ok (kind k o : Int) (w : World) (hk : kind = 1 ∨ kind = 2) (h1 : 1 ≤ k) (h2 : k ≤ 64) (ho : ¬ ((kind = 1 ∧ o ≠ 2) ∨ o < 1 ∨ 64 < o)) : Calls Try.prog 10 #[.int .i64 kind, .int .i64 k, .int .i64 o] w (NtP kind k o w) := by
  have hh := thaveO_any kind o w hk
  rw [decide_eq_true ho] at hh
  have hE : tnE kind k o = 0 := by unfold tnE; rw [if_neg (by omega), if_neg (by omega), if_neg ho]
  have hT := TM.ini w kind k o
  have hb := ballo w (.cells #[.int .i64 kind, .int .i64 k, .int .i64 o, .nilIface, .slice none 0 0, .int .i64 0, .slice none 0 0, .nilIface] 83)
  have MS := makeState_any hT (ok0 kind k o) none [] [] none 0 [] (.inl rfl) (fun _ => ⟨rfl, rfl⟩) (by simp) (fun u e => by cases e) ⟨fun x hx => (by cases hx), by simp⟩ hb.size (by show 0 ≤ 100000; omega)
  have HP : Hid (∀ p' w', TM w.heap.size w' p' ((tr0 kind k o).leaf none [] [] []) → Bx ((pN w.heap.size).has (tr0 kind k o)) (w.alloc (.cells #[.int .i64 kind, .int .i64 k, .int .i64 o, .nilIface, .slice none 0 0, .int .i64 0, .slice none 0 0, .nilIface] 83)) w' → p'.b = w.heap.size → NtP kind k o w (.returned (.tuple #[.pointer (some ⟨w.heap.size, 0, none⟩), .int .i64 0])) w') := hide fun p' w' t1 t2 t3 =>
    .inr ⟨hE, p', by rw [t3], t1, hb.trans (t2.below (fun k hk => (hT.hlt hk).1) hb.size)⟩
  have hk1 : ¬ k < 1 := by omega
  have hk2 : ¬ 64 < k := by omega
  clear hT hb hE ho h1 h2
  rcases hk with rfl | rfl
  all_goals (
    go_enter Try.func10, Try.ntmps10
    go_wp2_with fail
    refine hh.mono ?_
    rintro e w1 ⟨rfl, hw1⟩
    subst hw1
    go_wp2_with fail
    refine MS.mono ?_
    rintro e w2 ⟨p', rfl, t1, t2, -, t3, -⟩
    have hp := unhide HP p' w2 t1 t2 t3
    clear t1 t2 t3 MS HP
    go_wp2
    go_ret2
    exact hp)

end Go.Proofs.Ytlcablkhomnieaa
