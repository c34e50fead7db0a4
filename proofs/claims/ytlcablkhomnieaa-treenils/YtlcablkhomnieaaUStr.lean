/-
  Lists of small numbers as strings: a byte a number.
-/
import Derived.Test.YtlcablkhomnieaaTByt
import Derived.Test.YtlcablkhomnieaaK2
import Derived.Laws.Concat
import Derived.Laws.Strings2
namespace Go.Proofs.Ytlcablkhomnieaa
open Go.RowKit

def bts (l : List Int) : List UInt8 := l.map fun x => UInt8.ofNat x.toNat
/-- A list as a string. -/
def sp (l : List Int) : ByteArray := ⟨(bts l).toArray⟩
/-- Its numbers are bytes. -/
def Sb (l : List Int) : Prop := ∀ x ∈ l, 0 ≤ x ∧ x < 256
theorem Sb.nil : Sb [] := fun _ h => by simp at h
theorem Sb.app {a b : List Int} (h : Sb a) (g : Sb b) : Sb (a ++ b) := fun x hx => (List.mem_append.1 hx).elim (h x) (g x)
theorem Sb.one {x : Int} (h0 : 0 ≤ x) (h1 : x < 256) : Sb [x] := fun y hy => by rw [List.mem_singleton] at hy; subst hy; exact ⟨h0, h1⟩
theorem Sb.left {a b : List Int} (h : Sb (a ++ b)) : Sb a := fun x hx => h x (by simp [hx])
theorem Sb.right {a b : List Int} (h : Sb (a ++ b)) : Sb b := fun x hx => h x (by simp [hx])
theorem Sb.drop {a : List Int} (h : Sb a) (n : Nat) : Sb (a.drop n) := fun x hx => h x (List.mem_of_mem_drop hx)
theorem Sb.at {a : List Int} (h : Sb a) {i : Nat} (hi : i < a.length) : 0 ≤ a.getD i 0 ∧ a.getD i 0 < 256 := by
  rw [List.getD_eq_getElem?_getD, List.getElem?_eq_getElem hi]
  exact h _ (List.getElem_mem hi)
theorem b8 {x : Int} (h0 : 0 ≤ x) (h1 : x < 256) : ((UInt8.ofNat x.toNat).toNat : Int) = x := by
  rw [UInt8.toNat_ofNat']; omega
theorem zs_bts {l : List Int} (h : Sb l) : zs (bts l) = l := by
  unfold zs bts
  rw [List.map_map]
  exact (List.map_congr_left fun x hx => b8 (h x hx).1 (h x hx).2).trans (List.map_id l)
theorem bts_len (l : List Int) : (bts l).length = l.length := by simp [bts]
theorem bts_app (a b : List Int) : bts (a ++ b) = bts a ++ bts b := by simp [bts]
theorem bts_inj {a b : List Int} (ha : Sb a) (hb : Sb b) (h : bts a = bts b) : a = b := by rw [← zs_bts ha, ← zs_bts hb, h]
theorem sp_size (l : List Int) : (sp l).size = l.length := by show (bts l).toArray.size = _; rw [List.size_toArray, bts_len]
theorem sp_list (l : List Int) : (sp l).toList = bts l := ByteArray.toList_mk _
theorem sp_data (l : List Int) : (sp l).data.toList = bts l := by simp [sp]
theorem sp_app (a b : List Int) : sp a ++ sp b = sp (a ++ b) := by unfold sp; rw [ByteArray.mk_append_mk, bts_app]
theorem sp_nil : sp [] = ⟨#[]⟩ := rfl
theorem sp_nil' : (⟨#[]⟩ : ByteArray) = sp [] := rfl
theorem sp_drop (l : List Int) (n : Nat) : (sp l).extract n l.length = sp (l.drop n) := by
  unfold sp
  rw [ByteArray.extract_mk]
  congr 2
  unfold bts
  rw [← List.map_drop, List.take_of_length_le (by simp)]
theorem sp_inj {a b : List Int} (ha : Sb a) (hb : Sb b) (h : sp a = sp b) : a = b := by
  refine bts_inj ha hb ?_
  rw [← sp_list, ← sp_list, h]
theorem sp_beq {a b : List Int} (ha : Sb a) (hb : Sb b) : ((sp a).toList == (sp b).toList) = decide (a = b) := by
  rw [sp_list, sp_list]
  by_cases h : a = b
  · subst h; simp
  · rw [decide_eq_false h]
    exact beq_eq_false_iff_ne.2 fun e => h (bts_inj ha hb e)
theorem sp_at {l : List Int} (h : Sb l) {i : Nat} (hi : i < l.length) (hi' : i < (sp l).size) : (((sp l)[i]'hi').toNat : Int) = l.getD i 0 := by
  have e : (sp l)[i]'hi' = (bts l)[i]'(by rw [bts_len]; exact hi) := rfl
  rw [e]
  unfold bts
  rw [List.getElem_map, List.getD_eq_getElem?_getD, List.getElem?_eq_getElem hi]
  exact b8 (h _ (List.getElem_mem hi)).1 (h _ (List.getElem_mem hi)).2
theorem bl_cons (x y : UInt8) (a b : List UInt8) : Op.bytesLess (x :: a) (y :: b) = (decide (x < y) || (x == y && Op.bytesLess a b)) := by
  rw [Op.bytesLess]
/-- Bytes are less just where the numbers are. -/
theorem bl_lex : ∀ {a b : List Int}, Sb a → Sb b → a.length = b.length → (Op.bytesLess (bts a) (bts b) = true ↔ Lex a b)
  | [], [], _, _, _ => by simp [bts, Op.bytesLess, Lex]
  | [], _ :: _, _, _, h => by simp at h
  | _ :: _, [], _, _, h => by simp at h
  | x :: a, y :: b, ha, hb, h => by
    have ih := bl_lex (a := a) (b := b) (fun z hz => ha z (by simp [hz])) (fun z hz => hb z (by simp [hz])) (by simpa using h)
    have hx := ha x (by simp)
    have hy := hb y (by simp)
    have e1 : bts (x :: a) = UInt8.ofNat x.toNat :: bts a := rfl
    have e2 : bts (y :: b) = UInt8.ofNat y.toNat :: bts b := rfl
    have bx := b8 hx.1 hx.2
    have by' := b8 hy.1 hy.2
    rw [e1, e2, bl_cons]
    simp only [Lex, Bool.or_eq_true, decide_eq_true_eq, Bool.and_eq_true, beq_iff_eq]
    have lt : (UInt8.ofNat x.toNat < UInt8.ofNat y.toNat) ↔ x < y := by rw [UInt8.lt_iff_toNat_lt]; omega
    have eq : (UInt8.ofNat x.toNat = UInt8.ofNat y.toNat) ↔ x = y := ⟨fun e => by rw [e] at bx; omega, fun e => by rw [e]⟩
    rw [lt, eq, ih]
/-- Which of two words is ahead. -/
noncomputable def cmS (a b : List Int) : Int := open Classical in if Ahd a b then -1 else if a = b then 0 else 1
theorem cmS_lt {a b : List Int} (h : Ahd a b) : cmS a b = -1 := by unfold cmS; rw [if_pos h]
theorem cmS_eq (a : List Int) : cmS a a = 0 := by
  unfold cmS
  rw [if_neg (fun h => by rcases h with h | ⟨_, h⟩; exact Nat.lt_irrefl _ h; exact Lex.irrefl a h), if_pos rfl]
theorem Ahd.irr (a : List Int) : ¬ Ahd a a := fun h => by rcases h with h | ⟨_, h⟩; exact Nat.lt_irrefl _ h; exact Lex.irrefl a h
theorem Ahd.tot (a b : List Int) : Ahd a b ∨ a = b ∨ Ahd b a := by
  rcases Nat.lt_trichotomy a.length b.length with h | h | h
  · exact .inl (.inl h)
  · rcases Lex.total h with g | g | g
    · exact .inl (.inr ⟨h, g⟩)
    · exact .inr (.inl g)
    · exact .inr (.inr (.inr ⟨h.symm, g⟩))
  · exact .inr (.inr (.inl h))
theorem Ahd.tra {a b c : List Int} (h : Ahd a b) (g : Ahd b c) : Ahd a c := by
  rcases h with h | ⟨e, h⟩ <;> rcases g with g | ⟨f, g⟩
  · exact .inl (by omega)
  · exact .inl (by omega)
  · exact .inl (by omega)
  · exact .inr ⟨by omega, h.trans g⟩
theorem cmS_gt {a b : List Int} (h : Ahd b a) : cmS a b = 1 := by
  unfold cmS
  rw [if_neg (fun g => Ahd.irr a (g.tra h)), if_neg (fun e => by subst e; exact Ahd.irr _ h)]
theorem cmS_neg {a b : List Int} : cmS a b < 0 ↔ Ahd a b := by
  rcases Ahd.tot a b with h | h | h
  · rw [cmS_lt h]; exact ⟨fun _ => h, fun _ => by omega⟩
  · subst h; rw [cmS_eq]; exact ⟨fun h => by omega, fun h => absurd h (Ahd.irr _)⟩
  · rw [cmS_gt h]; exact ⟨fun h => by omega, fun g => absurd (g.tra h) (Ahd.irr _)⟩

end Go.Proofs.Ytlcablkhomnieaa
