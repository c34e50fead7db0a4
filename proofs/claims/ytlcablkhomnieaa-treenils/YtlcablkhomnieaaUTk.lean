/-
  Texts in plain words: a number at a place; pieces (a text, or a number of some bounds) that are read one by one, or written.
-/
import Derived.Lib.ItoaNum
namespace Go.Proofs.Ytlcablkhomnieaa

/-- Is the byte a digit? -/
def dgt (c : UInt8) : Bool := decide (48 ≤ c.toNat) && decide (c.toNat ≤ 57)
/-- The number of digits, read behind n. -/
def valF (n : Nat) (l : List UInt8) : Nat := l.foldl (fun n c => n * 10 + (c.toNat - 48)) n
/-- The digits that stand from a place on. -/
def digs (b : List UInt8) (i : Nat) : List UInt8 := (b.drop i).takeWhile dgt
/-- Number at a place of the bytes: the number, the place behind it (or of the fault), the error. -/
def numV (b : List UInt8) (i : Nat) : Nat × Nat × Int :=
  if (digs b i).length = 0 then (0, i, 6)
  else if 1 < (digs b i).length ∧ (digs b i).head? = some 48 then (0, i + 1, 6)
  else if 4 < (digs b i).length then (0, i + 4, 6)
  else (valF 0 (digs b i), i + (digs b i).length, 0)
/-- A piece of a text: bytes that must stand there, or a number from lo to hi (else: e). -/
inductive Pc where
  | tx (s : List UInt8)
  | nm (lo hi e : Int)
/-- Bytes that must stand at a place: the place behind them, or of the first one that does not. -/
def skp (b : List UInt8) : Nat → List UInt8 → Except Nat Nat
  | i, [] => .ok i
  | i, c :: s => if b[i]? = some c then skp b (i + 1) s else .error i
/-- Pieces read one by one: each number with its piece's error, the place behind; or the place of the first fault, and the error. -/
def tk (b : List UInt8) : Nat → List Pc → Except (Nat × Int) (List (Int × Int) × Nat)
  | i, [] => .ok ([], i)
  | i, .tx s :: ps => match skp b i s with
    | .error p => .error (p, 6)
    | .ok j => tk b j ps
  | i, .nm lo hi e :: ps =>
    if (numV b i).2.2 ≠ 0 then .error ((numV b i).2.1, (numV b i).2.2)
    else if ((numV b i).1 : Int) < lo ∨ hi < ((numV b i).1 : Int) then .error (i, e)
    else match tk b (numV b i).2.1 ps with
      | .error x => .error x
      | .ok (l, j) => .ok ((e, ((numV b i).1 : Int)) :: l, j)
/-- What was read, with what had been read ahead of it. -/
def pre (acc : List (Int × Int)) : Except (Nat × Int) (List (Int × Int) × Nat) → Except (Nat × Int) (List (Int × Int) × Nat)
  | .error x => .error x
  | .ok (l, j) => .ok (acc ++ l, j)
theorem pre_nil (r) : pre [] r = r := by cases r <;> rfl
theorem pre_pre (a c r) : pre a (pre c r) = pre (a ++ c) r := by
  cases r with
  | error x => rfl
  | ok p => obtain ⟨l, j⟩ := p; simp [pre]

theorem tk_tx {b i s ps j} (h : skp b i s = .ok j) : tk b i (.tx s :: ps) = tk b j ps := by
  simp only [tk]; rw [h]
theorem tk_tx_bad {b i s ps p} (h : skp b i s = .error p) : tk b i (.tx s :: ps) = .error (p, 6) := by
  simp only [tk]; rw [h]
theorem tk_nm {b i lo hi e ps} (h : (numV b i).2.2 = 0) (h0 : lo ≤ ((numV b i).1 : Int)) (h1 : ((numV b i).1 : Int) ≤ hi) :
    tk b i (.nm lo hi e :: ps) = pre [(e, ((numV b i).1 : Int))] (tk b (numV b i).2.1 ps) := by
  simp only [tk]
  rw [if_neg (by simp [h]), if_neg (by omega)]
  cases tk b (numV b i).2.1 ps <;> rfl
theorem tk_nm_form {b i lo hi e ps} (h : (numV b i).2.2 ≠ 0) : tk b i (.nm lo hi e :: ps) = .error ((numV b i).2.1, (numV b i).2.2) := by
  simp only [tk]; rw [if_pos h]
theorem tk_nm_out {b i lo hi e ps} (h : (numV b i).2.2 = 0) (h1 : ((numV b i).1 : Int) < lo ∨ hi < ((numV b i).1 : Int)) : tk b i (.nm lo hi e :: ps) = .error (i, e) := by
  simp only [tk]; rw [if_neg (by simp [h]), if_pos h1]
theorem tk_app (b : List UInt8) : ∀ (ps qs : List Pc) (i : Nat), tk b i (ps ++ qs) = match tk b i ps with
    | .error x => .error x
    | .ok (l, j) => pre l (tk b j qs)
  | [], qs, i => by simp only [List.nil_append, tk]; rw [pre_nil]
  | .tx s :: ps, qs, i => by
    rw [List.cons_append]
    cases h : skp b i s with
    | error p => rw [tk_tx_bad h, tk_tx_bad h]
    | ok j => rw [tk_tx h, tk_tx h]; exact tk_app b ps qs j
  | .nm lo hi e :: ps, qs, i => by
    rw [List.cons_append]
    by_cases h : (numV b i).2.2 = 0
    · by_cases h1 : ((numV b i).1 : Int) < lo ∨ hi < ((numV b i).1 : Int)
      · rw [tk_nm_out h h1, tk_nm_out h h1]
      · rw [tk_nm h (by omega) (by omega), tk_nm h (by omega) (by omega), tk_app b ps qs]
        cases tk b (numV b i).2.1 ps with
        | error x => rfl
        | ok p => obtain ⟨l, j⟩ := p; exact pre_pre [_] l _
    · rw [tk_nm_form h, tk_nm_form h]
theorem tk_app_ok {b i ps qs l j} (h : tk b i ps = .ok (l, j)) : tk b i (ps ++ qs) = pre l (tk b j qs) := by rw [tk_app, h]
theorem tk_app_bad {b i ps qs x} (h : tk b i ps = .error x) : tk b i (ps ++ qs) = .error x := by rw [tk_app, h]

/-! ### Where the places lie -/
theorem digs_le (b : List UInt8) (i : Nat) : (digs b i).length + i ≤ max b.length i := by
  have h := (List.takeWhile_prefix (p := dgt) (l := b.drop i)).length_le
  rw [List.length_drop] at h
  unfold digs; omega
theorem skp_le {b : List UInt8} : ∀ {s : List UInt8} {i j : Nat}, i ≤ b.length → skp b i s = .ok j → i ≤ j ∧ j ≤ b.length
  | [], i, j, hi, h => by cases h; omega
  | c :: s, i, j, hi, h => by
    rw [skp] at h
    by_cases hc : b[i]? = some c
    · rw [if_pos hc] at h
      have := (List.getElem?_eq_some_iff.1 hc).1
      have := skp_le (s := s) (by omega) h
      omega
    · rw [if_neg hc] at h; cases h
theorem skp_bad_le {b : List UInt8} : ∀ {s : List UInt8} {i p : Nat}, i ≤ b.length → skp b i s = .error p → p ≤ b.length
  | [], i, p, hi, h => by cases h
  | c :: s, i, p, hi, h => by
    rw [skp] at h
    by_cases hc : b[i]? = some c
    · rw [if_pos hc] at h
      have := (List.getElem?_eq_some_iff.1 hc).1
      exact skp_bad_le (s := s) (by omega) h
    · rw [if_neg hc] at h; cases h; exact hi
theorem numV_le {b : List UInt8} {i : Nat} (hi : i ≤ b.length) : i ≤ (numV b i).2.1 ∧ (numV b i).2.1 ≤ b.length := by
  have h := digs_le b i
  unfold numV
  split
  · simp; omega
  · split
    · simp; omega
    · split
      · simp; omega
      · simp; omega
theorem numV_err (b : List UInt8) (i : Nat) : (numV b i).2.2 = 0 ∨ (numV b i).2.2 = 6 := by
  unfold numV
  split
  · simp
  · split
    · simp
    · split <;> simp
theorem numV_zero {b : List UInt8} {i : Nat} (h : (numV b i).2.2 ≠ 0) : (numV b i).1 = 0 := by
  revert h
  unfold numV
  split
  · simp
  · split
    · simp
    · split <;> simp
theorem tk_le {b : List UInt8} : ∀ {ps : List Pc} {i : Nat} {l : List (Int × Int)} {j : Nat}, i ≤ b.length → tk b i ps = .ok (l, j) → i ≤ j ∧ j ≤ b.length
  | [], i, l, j, hi, h => by cases h; omega
  | .tx s :: ps, i, l, j, hi, h => by
    cases hs : skp b i s with
    | error p => rw [tk_tx_bad hs] at h; cases h
    | ok k =>
      rw [tk_tx hs] at h
      have h1 := skp_le hi hs
      have h2 := tk_le h1.2 h
      omega
  | .nm lo hi e :: ps, i, l, j, hi', h => by
    by_cases h0 : (numV b i).2.2 = 0
    · by_cases h1 : ((numV b i).1 : Int) < lo ∨ hi < ((numV b i).1 : Int)
      · rw [tk_nm_out h0 h1] at h; cases h
      · rw [tk_nm h0 (by omega) (by omega)] at h
        have hn := numV_le hi'
        cases ht : tk b (numV b i).2.1 ps with
        | error x => rw [ht] at h; cases h
        | ok p =>
          obtain ⟨l2, j2⟩ := p
          rw [ht] at h
          cases h
          have := tk_le hn.2 ht
          omega
    · rw [tk_nm_form h0] at h; cases h
theorem tk_bad_le {b : List UInt8} : ∀ {ps : List Pc} {i p : Nat} {e : Int}, i ≤ b.length → tk b i ps = .error (p, e) → p ≤ b.length
  | [], i, p, e, hi, h => by cases h
  | .tx s :: ps, i, p, e, hi, h => by
    cases hs : skp b i s with
    | error p => rw [tk_tx_bad hs] at h; cases h; exact skp_bad_le hi hs
    | ok k =>
      rw [tk_tx hs] at h
      exact tk_bad_le (skp_le hi hs).2 h
  | .nm lo hi e' :: ps, i, p, e, hi', h => by
    by_cases h0 : (numV b i).2.2 = 0
    · by_cases h1 : ((numV b i).1 : Int) < lo ∨ hi < ((numV b i).1 : Int)
      · rw [tk_nm_out h0 h1] at h; cases h; exact hi'
      · rw [tk_nm h0 (by omega) (by omega)] at h
        have hn := numV_le hi'
        cases ht : tk b (numV b i).2.1 ps with
        | error x => rw [ht] at h; cases h; exact tk_bad_le hn.2 ht
        | ok p =>
          obtain ⟨l2, j2⟩ := p
          rw [ht] at h
          cases h
    · rw [tk_nm_form h0] at h; cases h; exact (numV_le hi').2
/-- All errors of the pieces are errors. -/
def Errs (ps : List Pc) : Prop := ∀ lo hi e, Pc.nm lo hi e ∈ ps → 0 < e ∧ e ≤ 33
theorem tk_err {b : List UInt8} : ∀ {ps : List Pc} {i p : Nat} {e : Int}, Errs ps → tk b i ps = .error (p, e) → 0 < e ∧ e ≤ 33
  | [], i, p, e, he, h => by cases h
  | .tx s :: ps, i, p, e, he, h => by
    cases hs : skp b i s with
    | error p => rw [tk_tx_bad hs] at h; cases h; decide
    | ok k =>
      rw [tk_tx hs] at h
      exact tk_err (fun lo hi e hm => he lo hi e (List.mem_cons_of_mem _ hm)) h
  | .nm lo hi e' :: ps, i, p, e, he, h => by
    by_cases h0 : (numV b i).2.2 = 0
    · by_cases h1 : ((numV b i).1 : Int) < lo ∨ hi < ((numV b i).1 : Int)
      · rw [tk_nm_out h0 h1] at h; cases h; exact he lo hi _ List.mem_cons_self
      · rw [tk_nm h0 (by omega) (by omega)] at h
        cases ht : tk b (numV b i).2.1 ps with
        | error x => rw [ht] at h; cases h; exact tk_err (fun lo hi e hm => he lo hi e (List.mem_cons_of_mem _ hm)) ht
        | ok p =>
          obtain ⟨l2, j2⟩ := p
          rw [ht] at h
          cases h
    · rw [tk_nm_form h0] at h; cases h
      rcases numV_err b i with h | h
      · exact absurd h h0
      · rw [h]; decide

/-! ### Written: pieces with their numbers -/
/-- The numbers' errors, piece by piece. -/
def tags : List Pc → List Int
  | [] => []
  | .tx _ :: ps => tags ps
  | .nm _ _ e :: ps => e :: tags ps
/-- The text of pieces with these numbers. -/
def wr : List Pc → List (Int × Int) → List UInt8
  | [], _ => []
  | .tx s :: ps, l => s ++ wr ps l
  | .nm _ _ _ :: ps, [] => wr ps []
  | .nm _ _ _ :: ps, x :: l => Lib.itoa x.2 ++ wr ps l
/-- The numbers are those of the pieces, within their bounds. -/
def Fitp : List Pc → List (Int × Int) → Prop
  | [], l => l = []
  | .tx _ :: ps, l => Fitp ps l
  | .nm _ _ _ :: _, [] => False
  | .nm lo hi e :: ps, x :: l => x.1 = e ∧ lo ≤ x.2 ∧ x.2 ≤ hi ∧ Fitp ps l
theorem Fitp.tags : ∀ {ps : List Pc} {l : List (Int × Int)}, Fitp ps l → l.map (·.1) = tags ps
  | [], l, h => by cases h; rfl
  | .tx _ :: ps, l, h => Fitp.tags (ps := ps) h
  | .nm _ _ _ :: _, [], h => h.elim
  | .nm lo hi e :: ps, x :: l, h => by
    rw [List.map_cons, h.1, Fitp.tags h.2.2.2]; rfl
theorem tags_app (ps qs : List Pc) : tags (ps ++ qs) = tags ps ++ tags qs := by
  induction ps with
  | nil => rfl
  | cons p ps ih => cases p <;> simp [tags, ih]
theorem Fitp.app : ∀ {ps qs : List Pc} {l k : List (Int × Int)}, Fitp ps l → Fitp qs k → Fitp (ps ++ qs) (l ++ k)
  | [], qs, l, k, h, h' => by cases h; exact h'
  | .tx _ :: ps, qs, l, k, h, h' => Fitp.app (ps := ps) h h'
  | .nm _ _ _ :: _, qs, [], k, h, h' => h.elim
  | .nm lo hi e :: ps, qs, x :: l, k, h, h' => ⟨h.1, h.2.1, h.2.2.1, Fitp.app h.2.2.2 h'⟩
theorem wr_app : ∀ {ps qs : List Pc} {l k : List (Int × Int)}, Fitp ps l → wr (ps ++ qs) (l ++ k) = wr ps l ++ wr qs k
  | [], qs, l, k, h => by cases h; rfl
  | .tx s :: ps, qs, l, k, h => by
    have := wr_app (ps := ps) (qs := qs) (k := k) h
    simp [wr, this]
  | .nm _ _ _ :: _, qs, [], k, h => h.elim
  | .nm lo hi e :: ps, qs, x :: l, k, h => by
    have := wr_app (qs := qs) (k := k) h.2.2.2
    simp [wr, this]

/-! ### The pieces of a machine's text -/
/-- The numbers of one kind. -/
def pk (e : Int) (l : List (Int × Int)) : List Int := (l.filter fun x => decide (x.1 = e)).map (·.2)
theorem pk_nil (e : Int) : pk e [] = [] := rfl
theorem pk_app (e : Int) (l m : List (Int × Int)) : pk e (l ++ m) = pk e l ++ pk e m := by simp [pk]
theorem pk_yes {e : Int} {x : Int × Int} (h : x.1 = e) (l : List (Int × Int)) : pk e (x :: l) = x.2 :: pk e l := by simp [pk, h]
theorem pk_no {e : Int} {x : Int × Int} (h : x.1 ≠ e) (l : List (Int × Int)) : pk e (x :: l) = pk e l := by simp [pk, h]
/-- j ways of a Dfa's state. -/
def wyD (n : Int) : Nat → List Pc
  | 0 => []
  | j + 1 => wyD n j ++ [.tx [32], .nm 0 (n - 1) 32]
/-- A Dfa's state, the line break ahead of it, with j of its ways. -/
def stD (o n : Int) (j : Nat) : List Pc := [.tx [10], .nm 0 (o - 1) 33] ++ wyD n j
/-- The same, a Mealy's. -/
def stM (o n : Int) : Nat → List Pc
  | 0 => []
  | j + 1 => stM o n j ++ [.tx [if j = 0 then 10 else 32], .nm 0 (n - 1) 32, .tx [47], .nm 0 (o - 1) 33]
def stP (kd k o n : Int) : List Pc := if kd = 1 then stD o n k.toNat else stM o n k.toNat
/-- j states. -/
def stsP (kd k o n : Int) : Nat → List Pc
  | 0 => []
  | j + 1 => stsP kd k o n j ++ stP kd k o n
/-- All behind the first line's numbers. -/
def bdP (kd k o n : Int) : List Pc := stsP kd k o n n.toNat ++ [.tx [10]]
/-- The first line, but for the line break. -/
def hdP (kd : Int) : List Pc := if kd = 1 then [.tx [100, 102, 97, 32], .nm 1 64 1, .tx [32], .nm 1 1024 3] else [.tx [109, 101, 97, 108, 121, 32], .nm 1 64 1, .tx [32], .nm 1 64 33, .tx [32], .nm 1 1024 3]

end Go.Proofs.Ytlcablkhomnieaa
