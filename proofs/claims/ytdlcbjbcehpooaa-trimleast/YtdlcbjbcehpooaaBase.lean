/-
  Plain words that the other texts of this seat use: how a slice of ints reads in a world, and that old memory stays as it was.
-/
import Derived.Test.YtdlcbjbcehpooaaProg
import Derived.WalkKit
import Derived.WalkSpells
import Derived.WalkSmall
import Derived.BigQuiet
import Derived.Deep.QuietTactic
import Derived.Laws.CopyOwn
import Derived.Laws.AppendOwnNone
namespace Go.Proofs.Ytdlcbjbcehpooaa
open Go.RowKit

/-- The slice with the address a and n elements reads in w as f 0, .., f (n - 1). -/
def Rd (w : World) (a : Option Addr) (n : Nat) (f : Nat → Int) : Prop :=
  n = 0 ∨ ∃ b off, a = some ⟨b, off, none⟩ ∧ ∀ i, i < n → w.cell? ⟨b, off + i, none⟩ = some (.int .i64 (f i))

theorem Rd.nil (w : World) (a : Option Addr) (f : Nat → Int) : Rd w a 0 f := .inl rfl

theorem Rd.at {w : World} {a : Option Addr} {n : Nat} {f : Nat → Int} (h : Rd w a n f) {i : Nat} (hi : i < n) :
    ∃ b off, a = some ⟨b, off, none⟩ ∧ ∀ j, j < n → w.cell? ⟨b, off + j, none⟩ = some (.int .i64 (f j)) := by
  rcases h with h | h
  · omega
  · exact h

theorem Rd.below {w w' : World} {a : Option Addr} {n : Nat} {f : Nat → Int} (h : Rd w a n f) (hb : Below w.heap.size w w') : Rd w' a n f := by
  rcases h with h | ⟨b, off, rfl, hc⟩
  · exact .inl h
  · refine .inr ⟨b, off, rfl, fun i hi => ?_⟩
    have := World.block_lt_of_cell? w _ (hc i hi)
    rw [hb.cell (by exact this)]
    exact hc i hi

theorem Rd.congr {w : World} {a : Option Addr} {n : Nat} {f g : Nat → Int} (h : Rd w a n f) (e : ∀ i, i < n → f i = g i) : Rd w a n g := by
  rcases h with h | ⟨b, off, rfl, hc⟩
  · exact .inl h
  · exact .inr ⟨b, off, rfl, fun i hi => by rw [hc i hi, e i hi]⟩

theorem Rd.take {w : World} {a : Option Addr} {n m : Nat} {f : Nat → Int} (h : Rd w a n f) (hm : m ≤ n) : Rd w a m f := by
  rcases h with h | ⟨b, off, rfl, hc⟩
  · exact .inl (by omega)
  · exact .inr ⟨b, off, rfl, fun i hi => hc i (by omega)⟩

theorem hide {p : Prop} (h : p) : Hid p := h
theorem unhide {p : Prop} (h : Hid p) : p := h

theorem ret_int {k : IntKind} {a b : Int} (h : a = b) : Ending.returned (.int k a) = .returned (.int k b) := by rw [h]
theorem ret_bool {a b : Bool} (h : a = b) : Ending.returned (.bool a) = .returned (.bool b) := by rw [h]
theorem ret_ints {k j : IntKind} {a b c d : Int} (h : a = b) (g : c = d) : Ending.returned (.tuple #[.int k a, .int j c]) = .returned (.tuple #[.int k b, .int j d]) := by rw [h, g]

end Go.Proofs.Ytdlcbjbcehpooaa
