/-
  Words that Check takes; what Run says of them.
-/
import Derived.Test.YtepmdnggiajkbaaK16
import Derived.Test.YtepmdnggiajkbaaK2
namespace Go.Proofs.Ytepmdnggiajkbaa

theorem wch_iff {k : Int} (k0 : 1 ≤ k) (k1 : k ≤ 64) {l : List Int} (hl : l.length ≤ 4096) : (wchV l k).2 = 0 ↔ Wrd k l := by
  constructor
  · intro h x hx
    obtain ⟨_, _, _, hd⟩ := word_of_chk h
    obtain ⟨p, hp, rfl⟩ := mem_gd hx
    exact hd p hp
  · intro h
    unfold wchV
    rw [chkV_ok k0 k1 hl fun j hj => bad_no (h _ (gd_mem hj)).1 (h _ (gd_mem hj)).2]
theorem run_word {m : Mc} (hz : (mchV m).2 = 0) {l : List Int} (h : (wchV l m.k).2 = 0) : fromV m 0 l = ((goV m 0 l []).1, (goV m 0 l []).2, 0) := fromV_ok hz (Int.le_refl _) (by have := (right_of hz).n0; omega) h
theorem run_bad {m : Mc} (hz : (mchV m).2 = 0) {l : List Int} (h : (wchV l m.k).2 ≠ 0) : fromV m 0 l = (0, [], (wchV l m.k).2) := fromV_word hz (Int.le_refl _) (by have := (right_of hz).n0; omega) h

end Go.Proofs.Ytepmdnggiajkbaa
