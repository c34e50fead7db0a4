/-
  What the program's isName, isBroken and nameFault return.
-/
import Derived.Test.YtbhdcgebcmgidaaDoorSame
import Derived.Test.YtbhdcgebcmgidaaDoorRunes
import Derived.Test.YtbhdcgebcmgidaaDoorShelf
import Derived.Lib.Strings
import Derived.Lib.IndexBytes
namespace Go.Proofs.YtbhdcgebcmgidaaDoor
open Go.RowKit

/-- No name: below 21 (hexadecimal), or 7f. -/
def noName (r : Int) : Bool := decide (r < 33 ∨ r = 127)

theorem isName_any (r : Int) (w : World) : Calls Tryd.prog 56 #[.int .i32 r] w fun e w' => e = .returned (.bool (!noName r)) ∧ w' = w := by
  by_cases h1 : r < 33
  · have H := hide (show noName r = true by unfold noName; simp; omega)
    go_enter Tryd.func56, Tryd.ntmps56
    go_wp2
    go_ret
    exact ⟨ret_bool (by rw [unhide H]; rfl), rfl⟩
  · by_cases h2 : r = 127
    · subst h2
      go_enter Tryd.func56, Tryd.ntmps56
      go_wp2
      go_ret
      exact ⟨rfl, rfl⟩
    · have H := hide (show noName r = false by unfold noName; simp; omega)
      have h3 : (r != 127) = true := by simpa using h2
      clear h2
      go_enter Tryd.func56, Tryd.ntmps56
      go_wp2
      go_ret
      exact ⟨ret_bool (by rw [unhide H]; rfl), rfl⟩

def bom : List UInt8 := [239, 191, 189]
def brkR (rest : ByteArray) (r : Int) : Bool := decide (r = 65533) && !Lib.hasPrefix rest.data.toList bom

theorem isBroken_any (rest : ByteArray) (r : Int) (w : World) : Calls Tryd.prog 55 #[.string rest, .int .i32 r] w fun e w' => e = .returned (.bool (brkR rest r)) ∧ w' = w := by
  by_cases h1 : r = 65533
  · subst h1
    go_enter Tryd.func55, Tryd.ntmps55
    go_wp2_with (go_at_call 60; refine (hasPrefix_any _ _ _).mono ?_; rintro e w' ⟨rfl, rfl⟩)
    go_ret
    exact ⟨rfl, rfl⟩
  · have H := hide (show brkR rest r = false by simp [brkR, h1])
    have h3 : (r == 65533) = false := by simpa using h1
    clear h1
    go_enter Tryd.func55, Tryd.ntmps55
    go_wp2
    go_ret
    exact ⟨ret_bool (by rw [unhide H]), rfl⟩

theorem bt_list (s : ByteArray) (k : Nat) (h : k < s.data.toList.length) : (s.data.toList[k]'h).toNat = bt s k := by
  have h1 : k < s.size := by rw [Lib.size_eq]; exact h
  rw [← bt_get s k h1]
  simp [ByteArray.getElem_eq_getElem_data]
theorem byte_eq {x : UInt8} {n : Nat} (h : x.toNat = n) : x = UInt8.ofNat n := by
  rw [← h, UInt8.ofNat_toNat]

/-- The bytes from a place on begin with those of RuneError. -/
theorem prefix_bom (s : ByteArray) (i : Nat) :
    Lib.hasPrefix (s.extract i s.size).data.toList bom = true ↔ (i + 2 < s.size ∧ bt s i = 239 ∧ bt s (i + 1) = 191 ∧ bt s (i + 2) = 189) := by
  rw [Lib.extract_to_end, Lib.hasPrefix, List.isPrefixOf_iff_prefix]
  have hsz : s.size = s.data.toList.length := Lib.size_eq s
  constructor
  · rintro ⟨t, ht⟩
    have hlen := congrArg List.length ht
    simp only [bom, List.length_append, List.length_cons, List.length_nil, List.length_drop] at hlen
    have g : ∀ j (hj : j < 3), bt s (i + j) = (bom[j]'hj).toNat := fun j hj => by
      rw [← bt_list s (i + j) (by omega)]
      have e : (s.data.toList.drop i)[j]? = (bom ++ t)[j]? := by rw [ht]
      rw [List.getElem?_drop, List.getElem?_append_left hj, List.getElem?_eq_getElem (by omega), List.getElem?_eq_getElem hj] at e
      rw [Option.some.inj e]
    exact ⟨by omega, g 0 (by omega), g 1 (by omega), g 2 (by omega)⟩
  · rintro ⟨h0, h1, h2, h3⟩
    refine ⟨s.data.toList.drop (i + 3), ?_⟩
    rw [List.drop_eq_getElem_cons (show i < s.data.toList.length by omega), List.drop_eq_getElem_cons (show i + 1 < s.data.toList.length by omega), List.drop_eq_getElem_cons (show i + 1 + 1 < s.data.toList.length by omega)]
    rw [byte_eq ((bt_list s i (by omega)).trans h1), byte_eq ((bt_list s (i + 1) (by omega)).trans h2), byte_eq ((bt_list s (i + 1 + 1) (by omega)).trans h3)]
    rfl

theorem brkR_at (s : ByteArray) (i : Nat) : brkR (s.extract i s.size) (rn s i) = brk s i := by
  have h := brk_bytes s i
  have h2 := prefix_bom s i
  unfold brkR
  cases hb : brk s i
  · cases hp : Lib.hasPrefix (s.extract i s.size).data.toList bom
    · have : ¬ rn s i = 65533 := fun e => by
        have := h.2 ⟨e, fun g => by rw [h2.2 g] at hp; cases hp⟩
        rw [hb] at this; cases this
      simp [this]
    · rw [Bool.not_true, Bool.and_false]
  · have := h.1 hb
    have hp : Lib.hasPrefix (s.extract i s.size).data.toList bom = false := by
      cases hp : Lib.hasPrefix (s.extract i s.size).data.toList bom
      · rfl
      · exact absurd (h2.1 hp) this.2
    rw [hp, this.1]; rfl

end Go.Proofs.YtbhdcgebcmgidaaDoor
