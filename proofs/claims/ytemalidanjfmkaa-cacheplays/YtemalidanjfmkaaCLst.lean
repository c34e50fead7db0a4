/-
  The reference's List of layer 11.
-/
import Derived.Test.YtemalidanjfmkaaCOu
import Derived.Test.YtemalidanjfmkaaK29
import Derived.Test.YtemalidanjfmkaaTQuiet
import Derived.Test.YtemalidanjfmkaaK19
import Derived.BigRegion
namespace Go.Proofs.Ytemalidanjfmkaa
set_option linter.unusedVariables false
open Go.RowKit

theorem laL_wa {xs : List La} {i : Nat} (h : i < xs.length) : wa (laL xs) i = xs[i].l := by
  unfold wa laL
  rw [List.getD_eq_getElem?_getD, List.getElem?_map, List.getElem?_eq_getElem h]; rfl
theorem RdLs.oneX (w : World) {x : La} (h : LaOk w x) : RdLs (w.alloc (.cells #[.slice x.a x.l.length x.c] 29)) (some ⟨w.heap.size, 0, none⟩) [x] :=
  ⟨.inr ⟨w.heap.size, 0, rfl, fun i hi => by
    obtain rfl : i = 0 := by simpa using hi
    simp [laV]⟩, fun z hz => by
    obtain rfl := List.mem_singleton.1 hz
    exact h.below (ballo _ _)⟩
/-- What List leaves. -/
def LsPost (c : Cs) (w : World) (e : Ending) (w' : World) : Prop := ∃ v ys, e = .returned v ∧ OwnU w' w.heap.size v ys ∧ Wds c (laL ys) ∧ Below w.heap.size w w'
theorem LaOk.bx2 {w w' : World} {x : La} {X : Nat → Prop} (h : LaOk w x) (hb : Bx X w w') (hx : x.l.length ≠ 0 → ∀ q, x.a = some q → ¬ X q.block) : LaOk w' x := by
  refine ⟨?_, h.nil, h.le, h.cap⟩
  by_cases c : x.l.length = 0
  · exact .inl c
  · exact h.rd.bx hb (hx c)
/-- Two lists of the call's own slice exchanged. -/
theorem OwnU.swap {w : World} {B g cap : Nat} {xs : List La} (h : OwnU w B (.slice (some ⟨g, 0, none⟩) xs.length cap) xs) {i j : Nat} {x y : La} (hx : x ∈ xs) (hy : y ∈ xs) :
    OwnU ((w.setCell ⟨g, i, none⟩ (laV x)).setCell ⟨g, j, none⟩ (laV y)) B (.slice (some ⟨g, 0, none⟩) xs.length cap) ((xs.set i x).set j y) := by
  have h1 := (World.ownsRow.stored (World.ownsRow.stored h.top i (laV x)).1 j (laV y)).1
  have hm : ∀ z, z ∈ (xs.set i x).set j y → z ∈ xs := fun z hz => by
    rcases List.mem_or_eq_of_mem_set hz with hz | rfl
    · rcases List.mem_or_eq_of_mem_set hz with hz | rfl
      · exact hz
      · exact hx
    · exact hy
  have hb : Bx (fun k => k = g) w ((w.setCell ⟨g, i, none⟩ (laV x)).setCell ⟨g, j, none⟩ (laV y)) := Bx.setCell (X := fun k => k = g) (Bx.setCell (X := fun k => k = g) (Bx.refl _ w) (p := ⟨g, i, none⟩) rfl _) (p := ⟨g, j, none⟩) rfl _
  refine ⟨?_, fun z hz => (h.row z (hm z hz)).bx2 hb fun hn q hq k => ?_, fun z hz hn q hq => h.apart z (hm z hz) hn q hq⟩
  · rw [List.length_set, List.length_set, List.map_set, List.map_set]; exact h1
  · exact h.apart z (hm z hz) hn q hq (by rw [show q.block = g from k]; rfl)
theorem OwnU.heq {w w' : World} {B : Nat} {v : Value} {xs : List La} (h : OwnU w B v xs) (e : ∀ k : Nat, w'.heap[k]? = w.heap[k]?) : OwnU w' B v xs := by
  refine ⟨ownsRow_keep h.top fun b _ => e b, fun x hx => ?_, h.apart⟩
  have hx := h.row x hx
  refine ⟨?_, hx.nil, hx.le, hx.cap⟩
  rcases hx.rd with c | ⟨b, off, e2, hc⟩
  · exact .inl c
  · exact .inr ⟨b, off, e2, fun i hi => (World.cell?_of_block (e b)).trans (hc i hi)⟩
theorem OwnU.draws {w : World} {B : Nat} {v : Value} {xs : List La} (h : OwnU w B v xs) (n : Nat) : OwnU (w.drewN n) B v xs := h.grown (below_drewN (Below.refl _ _) n)
theorem OwnU.at {w : World} {B g cap : Nat} {xs : List La} (h : OwnU w B (.slice (some ⟨g, 0, none⟩) xs.length cap) xs) {i : Nat} (hi : i < xs.length) : w.cell? ⟨g, i, none⟩ = some (laV xs[i]) ∧ w.frozen? ⟨g, i, none⟩ = false := by
  refine ⟨?_, World.ownsRow.frozenAt h.top i⟩
  have := h.top.cells (g := g) rfl i (laV xs[i]) (by simp [hi])
  rw [add_at, Nat.zero_add] at this
  exact this
theorem ins_step {α : Type} (L : List α) (x : α) {k : Nat} (h0 : 0 < k) (hk : k ≤ L.length) (d : α) : ((L.take k ++ x :: L.drop k).set k (L.getD (k - 1) d)).set (k - 1) x = L.take (k - 1) ++ x :: L.drop (k - 1) := by
  have hl : (L.take k).length = k := by rw [List.length_take]; omega
  have e1 : L.take k = L.take (k - 1) ++ [L.getD (k - 1) d] := by
    have := List.take_succ_eq_append_getElem (l := L) (i := k - 1) (by omega)
    rw [show k - 1 + 1 = k by omega] at this
    rw [this, List.getD_eq_getElem?_getD, List.getElem?_eq_getElem (show k - 1 < L.length by omega)]; rfl
  have e2 : L.drop (k - 1) = L.getD (k - 1) d :: L.drop k := by
    rw [List.drop_eq_getElem_cons (show k - 1 < L.length by omega), show k - 1 + 1 = k by omega, List.getD_eq_getElem?_getD, List.getElem?_eq_getElem (show k - 1 < L.length by omega)]; rfl
  rw [List.set_append, hl, if_neg (by omega), Nat.sub_self, List.set_cons_zero, e2, List.set_append, hl, if_pos (by omega), e1]
  have hl1 : (L.take (k - 1)).length = k - 1 := by rw [List.length_take]; omega
  rw [List.set_append, hl1, if_neg (by omega), Nat.sub_self]
  simp
theorem ins_at {L : List La} {x : La} {k : Nat} (hk : k ≤ L.length) (d : La) : (L.take k ++ x :: L.drop k).getD k d = x ∧ (0 < k → (L.take k ++ x :: L.drop k).getD (k - 1) d = L.getD (k - 1) d) := by
  have hl : (L.take k).length = k := by rw [List.length_take]; omega
  constructor
  · rw [List.getD_eq_getElem?_getD, List.getElem?_append_right (by omega), hl, Nat.sub_self]; rfl
  · intro h0
    rw [List.getD_eq_getElem?_getD, List.getElem?_append_left (by omega), List.getElem?_take_of_lt (by omega), List.getD_eq_getElem?_getD]

set_option maxRecDepth 100000 in
set_option maxHeartbeats 8000000 in
theorem rlist_any (p : Cv) (w : World) (hr : RdC w p) (nd : (laL p.bg).Nodup) :
    Calls Try.prog 27 #[cvV p] w fun e w' => LsPost p.cs w e w' := by
  have HC1 := hide (Cb.alloc w p 34)
  have HB1 := hide (ballo w (.cells #[.int .i64 p.kind, .int .i64 p.k, .int .i64 p.o, .int .i64 0, .slice none 0 0, .slice none 0 0, .int .i64 p.most, .slice p.aw p.ws.length p.cw, .slice p.ao p.os.length p.co, .slice p.ab p.bg.length p.cb, .int .i64 p.hits, .int .i64 p.miss] 34))
  have HR := hide hr
  have HND := hide nd
  have hlb := hr.lb
  unfold cvV
  clear hr nd
  go_enter Try.func27, Try.ntmps27
  go_wp2
  generalize w.alloc (.cells #[.int .i64 p.kind, .int .i64 p.k, .int .i64 p.o, .int .i64 0, .slice none 0 0, .slice none 0 0, .int .i64 p.most, .slice p.aw p.ws.length p.cw, .slice p.ao p.os.length p.co, .slice p.ab p.bg.length p.cb, .int .i64 p.hits, .int .i64 p.miss] 34) = w1 at *
  go_loopw [3, 4] (fun v x wr => ∃ (I : Nat) (ys : List La), x = .int .i64 (I : Int) ∧ I ≤ p.bg.length ∧ Hid (OwnU wr w1.heap.size v ys) ∧ Hid (Tln p.cs I (laL ys)) ∧ Hid (ys.length ≤ I) ∧ Hid (Below w1.heap.size w1 wr)) (fun _ x _ => p.bg.length - (intOf x).toNat)
  case atStart => exact ⟨0, [], rfl, Nat.zero_le _, hide (OwnU.nil _ _), hide (Tln.nil _), hide (Nat.le_refl _), hide (Below.refl _ _)⟩
  case round =>
    obtain ⟨I, ys, rfl, hI, HO, HT, HL, HB⟩ := hrel
    obtain ⟨av, cv, rfl, -, -⟩ := (unhide HO).rd
    have hbw := bstep (unhide HB1) (unhide HB)
    obtain ⟨p0, p1, p2, p3, p4, p5, p6, p7, p8, p9, p10, p11⟩ := (unhide HC1).below (unhide HB)
    by_cases hlt : I < p.bg.length
    · have hlt' : (I : Int) < (p.bg.length : Int) := by omega
      obtain ⟨tb, toff, hab, htc⟩ := ((unhide HR).bg.below hbw).at hlt
      rw [hab] at p9
      have ct := htc I hlt
      have HXO := hide ((unhide HR).bg.row p.bg[I] (List.getElem_mem hlt))
      have HXW := hide (laL_wa hlt)
      have HAB := hide hab
      generalize p.bg[I] = X at *
      have hfd := rfind_any p X.a X.c X.l wr ((unhide HR).below hbw) ((unhide HXO).below hbw).rd (unhide HXO).len
      unfold cvV FdPost laV at hfd
      rw [hab] at hfd
      clear htc hab
      go_wp2_with fail
      refine hfd.mono ?_
      rintro e wA ⟨xA, rfl, -, -, hbA⟩
      have HBA := hide (bstep (unhide HB) hbA)
      have HOA := hide ((unhide HO).grown hbA)
      have HS0 : Hid ((findV p.cs X.l).isSome = okN p.cs I 0) := by
        show _ = (findV p.cs (wa p.cs.bg I)).isSome
        rw [show wa p.cs.bg I = X.l from unhide HXW]
      rw [unhide HS0]
      clear hfd p0 p1 p2 p3 p4 p5 p6 p7 p8 p9 p10 p11 ct hbA HO HB hbw
      go_wp2
      go_loopw [7, 8] (fun ob x wr => ∃ k : Nat, ob = .bool (okN p.cs I k) ∧ x = .int .i64 (k : Int) ∧ k ≤ p.bg.length ∧ Below wA.heap.size wA wr) (fun _ x _ => p.bg.length - (intOf x).toNat)
      case atStart => exact ⟨0, rfl, rfl, Nat.zero_le _, Below.refl _ _⟩
      case round =>
        obtain ⟨k, rfl, rfl, hk, hBk⟩ := hrel
        have hB1k := bstep (unhide HBA) hBk
        have hbwk := bstep (unhide HB1) hB1k
        obtain ⟨p0, -, -, -, -, -, -, -, -, p9, -, -⟩ := (unhide HC1).below hB1k
        rw [unhide HAB] at p9
        by_cases hkl : k < p.bg.length
        · have hkl' : (k : Int) < (p.bg.length : Int) := by omega
          by_cases k2 : p.kind = 2
          · have t2 : (p.kind == 2) = true := by simp [k2]
            by_cases hki : k = I
            · have t3 : ((k : Int) != (I : Int)) = false := by simp [hki]
              have HN : Hid (okN p.cs I (k + 1) = okN p.cs I k) := by
                show (if _ then false else okN p.cs I k) = _
                rw [if_neg (fun q => q.2.1 hki)]
              clear k2 hki
              generalize okN p.cs I k = ob at *
              go_wp2
              go_roundw
              case rel => exact ⟨k + 1, by rw [unhide HN], by go_num, by omega, hBk⟩
              case measure => simp [intOf]; omega
            · have t3 : ((k : Int) != (I : Int)) = true := by simp; omega
              obtain ⟨tb', toff', hab', htc'⟩ := ((unhide HR).bg.below hbwk).at hkl
              rw [unhide HAB] at hab'
              cases hab'
              have ck := htc' k hkl
              have HYO := hide (((unhide HR).bg.row p.bg[k] (List.getElem_mem hkl)).below hbwk)
              have HYW := hide (laL_wa hkl)
              generalize p.bg[k] = Y at *
              have hbg := rbegins_any Y X.a X.c X.l wr (unhide HYO) ((unhide HXO).below hbwk).rd (unhide HXO).len
              have HN : Hid (okN p.cs I (k + 1) = if begV Y.l X.l = true then false else okN p.cs I k) := by
                show (if p.cs.kind = 2 ∧ k ≠ I ∧ begV (wa p.cs.bg k) (wa p.cs.bg I) = true then false else okN p.cs I k) = _
                rw [show wa p.cs.bg I = X.l from unhide HXW, show wa p.cs.bg k = Y.l from unhide HYW]
                by_cases q : begV Y.l X.l = true
                · rw [if_pos ⟨k2, hki, q⟩, if_pos q]
                · rw [if_neg (fun z => q z.2.2), if_neg q]
              generalize okN p.cs I k = ob at *
              clear htc' k2 hki
              cases hbv : begV Y.l X.l with
              | true =>
                rw [hbv] at hbg HN
                clear hbv
                go_wp2_with (first | (go_at_call 47; refine hbg.mono ?_; rintro e wB ⟨rfl, hbB⟩))
                go_roundw
                case rel => exact ⟨k + 1, by rw [unhide HN]; rfl, by go_num, by omega, bstep hBk hbB⟩
                case measure => simp [intOf]; omega
              | false =>
                rw [hbv] at hbg HN
                clear hbv
                go_wp2_with (first | (go_at_call 47; refine hbg.mono ?_; rintro e wB ⟨rfl, hbB⟩))
                go_roundw
                case rel => exact ⟨k + 1, by rw [unhide HN]; rfl, by go_num, by omega, bstep hBk hbB⟩
                case measure => simp [intOf]; omega
          · have t2 : (p.kind == 2) = false := by simp [k2]
            have HN : Hid (okN p.cs I (k + 1) = okN p.cs I k) := by
              show (if _ then false else okN p.cs I k) = _
              rw [if_neg (fun q => k2 q.1)]
            clear k2
            generalize okN p.cs I k = ob at *
            go_wp2
            go_roundw
            case rel => exact ⟨k + 1, by rw [unhide HN], by go_num, by omega, hBk⟩
            case measure => simp [intOf]; omega
        · obtain rfl : k = p.bg.length := by omega
          have hkl' : ¬ (p.bg.length : Int) < (p.bg.length : Int) := by omega
          have hlen : p.cs.bg.length = p.bg.length := laL_len p.bg
          have htl := okN_tld (c := p.cs) (unhide HND) (i := I) (by rw [hlen]; exact hlt)
          rw [hlen] at htl
          have hOk := (unhide HOA).grown hBk
          cases hob : okN p.cs I p.bg.length with
          | false =>
            have HTN : Hid (Tln p.cs (I + 1) (laL ys)) := (unhide HT).skip (fun q => by rw [htl.2 q] at hob; cases hob)
            have HOk := hide hOk
            clear hob htl hlen hOk p0
            go_wp2
            go_roundw
            case rel => exact ⟨I + 1, ys, by go_num, by omega, HOk, HTN, hide (by have := unhide HL; omega), hide hB1k⟩
            case measure => simp [intOf]; omega
          | true =>
            have HTD := hide (htl.1 hob)
            have HOk := hide hOk
            have HB1K := hide hB1k
            have hysl : ys.length ≤ 100000000 := by have := unhide HL; omega
            have hzk := hB1k.size
            have HXk := hide ((unhide HXO).below hbwk)
            have HXA : Hid (∀ z ∈ [X], z.l.length ≠ 0 → ∀ q, z.a = some q → (Value.slice av ys.length cv).ownBlock ≠ some q.block) := fun z hz hn q hq e => by
              obtain rfl := List.mem_singleton.1 hz
              have h3 := (unhide HXO).lt hn q hq
              have h4 := (World.ownsRow.lt (unhide HOk).top _ e).1
              have h5 := (unhide HB1).size
              omega
            clear hob htl hlen hOk p0
            go_wp2_with (at_builtin; refine wpl_pushU rfl (.tmp 55) (.tmp 57) rfl w1.heap.size _ ys rfl ((unhide HOk).grown (ballo _ _)) (some ⟨wr.heap.size, 0, none⟩) 1 [X] rfl (RdLs.oneX wr (unhide HXk)) (fun e => by cases e) (unhide HXA) (by simp only [List.length_singleton]; omega) (by simp; omega) ?_; intro v8 w8 ho8 hb8 hg8; obtain ⟨a8, c8, rfl, -, hn8⟩ := ho8.rd)
            cases a8 with
            | none => have := (hn8 rfl).1; simp at this
            | some ad8 =>
              have hB8 : Below w1.heap.size w1 w8 := ((unhide HB1K).alloc hzk _).trans hb8
              obtain ⟨g8, eg8⟩ : ∃ g8, ad8 = ⟨g8, 0, none⟩ := by
                rcases ho8.top.2 with ⟨q, -⟩ | ⟨q1, q2, q3, q4, -⟩
                · cases q
                · cases q4; exact ⟨_, rfl⟩
              subst eg8
              have hl8 : (ys ++ [X]).length = ys.length + 1 := by simp
              have HO8 : Hid (OwnU w8 w1.heap.size (.slice (some ⟨g8, 0, none⟩) (ys.take ys.length ++ X :: ys.drop ys.length).length c8) (ys.take ys.length ++ X :: ys.drop ys.length)) := by
                have e9 : ys.take ys.length ++ X :: ys.drop ys.length = ys ++ [X] := by simp
                rw [e9]; exact ho8
              have HB8 := hide hB8
              clear ho8 hb8 hg8 hn8 HOk HOA
              go_wp2
              go_loopw [9] (fun x wr => ∃ k : Nat, x = .int .i64 (k : Int) ∧ k ≤ ys.length ∧ Hid (OwnU wr w1.heap.size (.slice (some ⟨g8, 0, none⟩) (ys.take k ++ X :: ys.drop k).length c8) (ys.take k ++ X :: ys.drop k)) ∧ Hid (∀ y ∈ (laL ys).drop k, Ahd X.l y) ∧ Hid (Below w1.heap.size w1 wr)) (fun x _ => (intOf x).toNat)
              case atStart => exact ⟨ys.length, by go_num, Nat.le_refl _, HO8, hide (by rw [← laL_len ys]; simp), HB8⟩
              case round =>
                obtain ⟨k, rfl, hky, HOW, HDR, HBW⟩ := hrel
                have HWD : Hid (wa p.cs.bg I = X.l) := unhide HXW
                have HTI : Hid (∀ k, k ≤ ys.length → (∀ y ∈ (laL ys).drop k, Ahd X.l y) → (k = 0 ∨ ¬ Ahd X.l ((laL ys).getD (k - 1) [])) → Tln p.cs (I + 1) (laL (ys.take k ++ X :: ys.drop k))) := fun k hk h1 h2 => by
                  have h3 := Tln.ins (k := k) (unhide HT) (unhide HND) (by rw [show p.cs.bg.length = p.bg.length from laL_len p.bg]; exact hlt) (unhide HTD) (by rw [unhide HWD]; exact h1) (by rw [unhide HWD]; exact h2) (by rw [laL_len]; exact hk)
                  rw [unhide HWD] at h3
                  have e4 : laL (ys.take k ++ X :: ys.drop k) = (laL ys).take k ++ X.l :: (laL ys).drop k := by
                    unfold laL; simp [List.map_take, List.map_drop]
                  rw [e4]; exact h3
                have hlz : (ys.take k ++ X :: ys.drop k).length = ys.length + 1 := by
                  rw [List.length_append, List.length_cons, List.length_take, List.length_drop]; omega
                have HLZ := hide hlz
                have HLY : Hid (ys.length + 1 ≤ I + 1) := by show _ ≤ _; have := unhide HL; omega
                clear HO8 HB8
                have hbwk := bstep (unhide HB1) (unhide HBW)
                have hlt9 : (((ys.take k ++ X :: ys.drop k).length : Nat) : Int) = (ys.length : Int) + 1 := by omega
                rcases Nat.eq_zero_or_pos k with rfl | h0
                · have HTF := hide (unhide HTI 0 (Nat.zero_le _) (unhide HDR) (.inl rfl))
                  have HFI : Hid (∀ n, OwnU (wr.drewN n) w1.heap.size (.slice (some ⟨g8, 0, none⟩) (ys.length + 1) c8) (ys.take 0 ++ X :: ys.drop 0)) := fun n => by
                    have := (unhide HOW).draws n
                    rwa [unhide HLZ] at this
                  have d0 : decide ((((0 : Nat) : Int)) > 0) = false := rfl
                  clear HOW HTI hlt9 hlz hbwk
                  go_wp2
                  go_quiet (fail)
                  go_wp2
                  go_roundw
                  case rel => exact ⟨I + 1, _, by go_num, by omega, hide (unhide HFI _), HTF, hide (by rw [unhide HLZ]; exact unhide HLY), hide (below_drewN (unhide HBW) _)⟩
                  case measure => simp [intOf]; omega
                · obtain ⟨m, rfl⟩ : ∃ m, k = m + 1 := ⟨k - 1, by omega⟩
                  have hZ := unhide HOW
                  have hkz : m + 1 < (ys.take (m + 1) ++ X :: ys.drop (m + 1)).length := by rw [hlz]; omega
                  obtain ⟨c1, f1⟩ := hZ.at (i := m + 1) hkz
                  obtain ⟨c2, f2⟩ := hZ.at (i := m) (by omega)
                  have i1 := (ins_at (x := X) hky ⟨[], none, 0⟩).1
                  have i2 := (ins_at (x := X) hky ⟨[], none, 0⟩).2 (by omega)
                  rw [show m + 1 - 1 = m by omega] at i2
                  rw [List.getD_eq_getElem?_getD, List.getElem?_eq_getElem hkz, Option.getD_some] at i1
                  rw [List.getD_eq_getElem?_getD, List.getElem?_eq_getElem (show m < (ys.take (m + 1) ++ X :: ys.drop (m + 1)).length by omega), Option.getD_some] at i2
                  rw [i1] at c1
                  rw [i2] at c2
                  have hYm : ys.getD m ⟨[], none, 0⟩ ∈ ys.take (m + 1) ++ X :: ys.drop (m + 1) := by rw [← i2]; exact List.getElem_mem _
                  have hXm : X ∈ ys.take (m + 1) ++ X :: ys.drop (m + 1) := by simp
                  have hYl : (laL ys).getD m [] = (ys.getD m ⟨[], none, 0⟩).l := by
                    unfold laL
                    rw [List.getD_eq_getElem?_getD, List.getElem?_map, List.getD_eq_getElem?_getD, List.getElem?_eq_getElem (show m < ys.length by omega)]; rfl
                  have hst := ins_step ys X (k := m + 1) (by omega) hky ⟨[], none, 0⟩
                  rw [show m + 1 - 1 = m by omega] at hst
                  have hYr := hZ.row _ hYm
                  have hXr := hZ.row _ hXm
                  have hdr2 : (laL ys).drop m = (ys.getD m ⟨[], none, 0⟩).l :: (laL ys).drop (m + 1) := by
                    rw [← hYl, List.drop_eq_getElem_cons (by rw [laL_len]; omega), List.getD_eq_getElem?_getD, List.getElem?_eq_getElem (by rw [laL_len]; omega)]; rfl
                  generalize ys.getD m ⟨[], none, 0⟩ = Y at *
                  replace c1 : wr.cell? ⟨g8, m + 1, none⟩ = some (.slice X.a X.l.length X.c) := c1
                  replace c2 : wr.cell? ⟨g8, m, none⟩ = some (.slice Y.a Y.l.length Y.c) := c2
                  have HAQ : Hid (∀ q, Calls Try.prog 51 #[.slice X.a X.l.length X.c, .slice Y.a Y.l.length Y.c] (wr.drewN q) fun e w'' => e = .returned (.bool (ahdL X.l Y.l)) ∧ ∃ n, w'' = wr.drewN n) := fun q => quiet_of_draws (ahead_l X.a Y.a X.c Y.c X.l Y.l (wr.drewN q) (hXr.below (below_drewN (Below.refl _ _) q)).rd (hYr.below (below_drewN (Below.refl _ _) q)).rd hXr.len hYr.len)
                  have d0 : decide ((((m + 1 : Nat) : Int)) > 0) = true := decide_eq_true (by omega)
                  have hm1 : (((m + 1 : Nat) : Int)) < (ys.length : Int) + 1 := by omega
                  have hm2 : ((m : Nat) : Int) < (ys.length : Int) + 1 := by omega
                  have HOS : Hid (OwnU ((wr.setCell ⟨g8, m + 1, none⟩ (laV Y)).setCell ⟨g8, m, none⟩ (laV X)) w1.heap.size (.slice (some ⟨g8, 0, none⟩) (ys.length + 1) c8) (ys.take m ++ X :: ys.drop m)) := by
                    have := hZ.swap (i := m + 1) (j := m) hYm hXm
                    rw [hst, hlz] at this
                    exact this
                  have hg8 : w1.heap.size ≤ g8 := (World.ownsRow.lt hZ.top g8 rfl).1
                  have c1' : ∀ n, (wr.drewN n).cell? ⟨g8, m + 1, none⟩ = some (.slice X.a X.l.length X.c) := fun _ => c1
                  have c2' : ∀ n, (wr.drewN n).cell? ⟨g8, m, none⟩ = some (.slice Y.a Y.l.length Y.c) := fun _ => c2
                  have f1' : ∀ n, (wr.drewN n).frozen? ⟨g8, m + 1, none⟩ = false := fun _ => f1
                  have f2' : ∀ n, (wr.drewN n).frozen? ⟨g8, m, none⟩ = false := fun _ => f2
                  cases hah : ahdL X.l Y.l with
                  | true =>
                    have HDN : Hid (∀ y ∈ (laL ys).drop m, Ahd X.l y) := fun y hy => by
                      rw [hdr2] at hy
                      rcases List.mem_cons.1 hy with rfl | hy
                      · refine Classical.byContradiction fun q => ?_
                        rw [ahdL_no q] at hah; cases hah
                      · exact unhide HDR y hy
                    rw [hah] at HAQ
                    clear hah hZ HOW i1 i2 hkz hYm hXm hYl hst hYr hXr hdr2 hlt9 hlz hbwk HTI
                    go_wp2
                    go_quiet ((go_at_call 51; exact unhide HAQ _))
                    have c1q := c1' nq
                    have c2q := c2' nq
                    have f1q := f1' nq
                    have f2q := f2' nq
                    clear c1' c2' f1' f2' c1q c2q f1q f2q
                    go_wp2
                    go_big_region
                    all_goals
                      go_wp2
                      go_roundw
                      case rel =>
                        refine ⟨m, by go_num, by omega, hide ?_, HDN, hide (((below_drewN (unhide HBW) _).setCell (p := ⟨g8, m + 1, none⟩) hg8 _).setCell (p := ⟨g8, m, none⟩) hg8 _)⟩
                        rw [show (ys.take m ++ X :: ys.drop m).length = ys.length + 1 by rw [List.length_append, List.length_cons, List.length_take, List.length_drop]; omega]
                        exact (unhide HOS).heq fun _ => rfl
                      case measure => simp [intOf]
                  | false =>
                    have HTF := hide (unhide HTI (m + 1) hky (unhide HDR) (.inr (by
                      rw [show m + 1 - 1 = m by omega, hYl]
                      intro q
                      rw [ahdL_yes q] at hah; cases hah)))
                    have HFI : Hid (∀ n, OwnU (wr.drewN n) w1.heap.size (.slice (some ⟨g8, 0, none⟩) (ys.length + 1) c8) (ys.take (m + 1) ++ X :: ys.drop (m + 1))) := fun n => by
                      have := (unhide HOW).draws n
                      rwa [unhide HLZ] at this
                    rw [hah] at HAQ
                    clear hah hZ HOW i1 i2 hkz hYm hXm hYl hst hYr hXr hdr2 hlt9 hlz hbwk HTI HOS
                    go_wp2
                    go_quiet ((go_at_call 51; exact unhide HAQ _))
                    go_wp2
                    go_roundw
                    case rel => exact ⟨I + 1, _, by go_num, by omega, hide (unhide HFI _), HTF, hide (by rw [unhide HLZ]; exact unhide HLY), hide (below_drewN (unhide HBW) _)⟩
                    case measure => simp [intOf]; omega
    · obtain rfl : I = p.bg.length := by omega
      have hlt' : ¬ (p.bg.length : Int) < (p.bg.length : Int) := by omega
      have HF : Hid (LsPost p.cs w (.returned (.slice av ys.length cv)) wr) := by
        refine ⟨_, ys, rfl, ?_, ?_, hbw⟩
        · have := unhide HO
          have hz := (unhide HB1).size
          refine ⟨ownsRow_base this.top hz, this.row, this.apart⟩
        · have := unhide HT
          rw [← laL_len p.bg] at this
          exact Tln.all this
      clear p0 p1 p2 p3 p4 p5 p6 p7 p8 p10 p11 hbw
      go_wp2
      go_ret
      exact unhide HF

end Go.Proofs.Ytemalidanjfmkaa
