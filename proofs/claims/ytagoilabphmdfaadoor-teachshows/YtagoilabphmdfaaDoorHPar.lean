/-
  The program's Parse of layer 10.
-/
import Derived.Test.YtagoilabphmdfaaDoorHLin
import Derived.Test.YtagoilabphmdfaaDoorEParse
namespace Go.Proofs.YtagoilabphmdfaaDoor
open Go.RowKit

theorem OwnPs.gr {w w' : World} {B X : Nat} {v : Value} {l : List Pa} (h : OwnPs w B v l) (hg : w.grownBy w' (some X)) (hX : X < B) (hlow : ∀ p ∈ l, ∀ x, (p.a1 = some x ∨ p.a2 = some x) → B ≤ x.block) : OwnPs w' B v l := by
  have hlt := World.ownsRow.lt h.top
  refine ⟨World.ownsRow.kept (row := some X) h.top hg ?_, fun p hp => ⟨rdG (h.row p hp).out hg fun x e c => ?_, rdG (h.row p hp).word hg fun x e c => ?_⟩, fun p hp x hx => ⟨(h.apart p hp x hx).1, Nat.lt_of_lt_of_le (h.apart p hp x hx).2 hg.size⟩⟩
  · by_cases e : v.ownBlock = none
    · exact .inl e
    · refine .inr fun c => ?_
      have := (hlt _ c).1
      omega
  · have := hlow p hp x (.inl e); injection c with c; omega
  · have := hlow p hp x (.inr e); injection c with c; omega

theorem RdPa.below {w w' : World} {p : Pa} (h : RdPa w p) (hb : Below w.heap.size w w') : RdPa w' p := ⟨h.out.below hb, h.word.below hb⟩
theorem RdPs.below {w w' : World} {a : Option Addr} {l : List Pa} (h : RdPs w a l) (hb : Below w.heap.size w w') : RdPs w' a l := by
  refine ⟨?_, fun p hp => (h.row p hp).below hb⟩
  rcases h.top with h0 | ⟨b, off, e, hc⟩
  · exact .inl h0
  · refine .inr ⟨b, off, e, fun i hi j hj => ?_⟩
    have h1 := hc i hi j hj
    have h2 : w.cell? ⟨b, off + (i * 3 + j), none⟩ = some ((paC l[i])[j]'(by rw [paC_len]; exact hj)) := by rw [h1]; exact List.getElem?_eq_getElem _
    exact (hb.cell (World.block_lt_of_cell? w _ h2)).trans h1

/-- What answers leaves. -/
def AnPost (w : World) (sb : Nat) (a : Option Addr) (c : Nat) (b : List UInt8) (r : List An × Int × Int) (e : Ending) (w' : World) : Prop :=
  ∃ (lv : Value) (l : List Pa) (j : Nat), e = .returned (.tuple #[lv, .int .i64 r.2.1]) ∧ OwnPs w' w.heap.size lv l ∧ anL l = r.1 ∧ (∀ p ∈ l, p.an.out.length ≤ maxLen ∧ p.an.word.length ≤ maxLen) ∧ r.2.2 = (j : Int) ∧ Sr w' sb a c b j ∧ w.grownBy w' (some sb)

set_option maxRecDepth 100000 in
set_option maxHeartbeats 4000000 in
theorem answers_any (sb : Nat) (a : Option Addr) (c : Nat) (b : List UInt8) (w : World) (h : Sr w sb a c b 0) (hb : b.length ≤ 16777216) :
    Calls Tryd.prog 18 #[.pointer (some ⟨sb, 0, none⟩)] w (AnPost w sb a c b (prsA b b.length [] 0)) := by
  have hsb := h.lt
  have HA := hide h.blk
  have HS0 := hide h
  clear h
  go_enter Tryd.func18, Tryd.ntmps18
  go_wp2
  go_loopw [2] (fun lv wr => ∃ (l : List Pa) (x f : Nat), x ≤ b.length ∧ b.length ≤ x + f ∧ l.length ≤ 65536 ∧ Hid (OwnPs wr w.heap.size lv l) ∧ Hid (∀ p ∈ l, ∀ y, (p.a1 = some y ∨ p.a2 = some y) → w.heap.size ≤ y.block) ∧ Hid (∀ p ∈ l, p.an.out.length ≤ maxLen ∧ p.an.word.length ≤ maxLen) ∧ Hid (Sr wr sb a c b x) ∧ w.grownBy wr (some sb) ∧ Hid (prsA b b.length [] 0 = prsA b f (anL l) x)) (fun _ wr => b.length - atW wr sb)
  case atStart => exact ⟨[], 0, b.length, Nat.zero_le _, by omega, by simp, hide (OwnPs.nil _ _), hide (fun _ h => (by cases h)), hide (fun _ h => (by cases h)), HS0, gr_refl _ _, hide rfl⟩
  case round =>
    obtain ⟨l, x, f, hx, hf, hL, HO, HLW, HM, HS, hg, HN⟩ := hrel
    obtain ⟨p0, p1, pf, prd, ple, poff⟩ := id (unhide HS)
    obtain ⟨a5, c5, rfl, hrd⟩ := (unhide HO).rd
    have hat := (unhide HS).atW
    have hsr := hg.size
    have hal : (anL l).length = l.length := by simp [anL]
    clear prd poff ple hrd pf
    by_cases h1 : x < b.length
    · have h1' : (x : Int) < (b.length : Int) := by omega
      by_cases h2 : l.length = 65536
      · have t2 : ((l.length : Int) == 65536) = true := by simp; omega
        have HE := hide ((unhide HN).trans (prsA_many hf h1 (by omega)))
        clear h2
        go_wp2
        go_quiet (fail)
        go_wp2
        go_ret2
        exact ⟨_, [], x, by rw [unhide HE]; rfl, OwnPs.nil _ _, by rw [unhide HE]; rfl, fun _ h => (by cases h), by rw [unhide HE], (unhide HS).drewN _, gr_drewN hg _⟩
      · have t2 : ((l.length : Int) == 65536) = false := by simp; omega
        have hlL := linP_lineV h1
        have hL6 : l.length < 65536 := by omega
        have hln := fun n => line_any sb a c b x (wr.drewN n) ((unhide HS).drewN n) h1 hb
        by_cases h3 : (linP b x).2.2 = 0
        · have t3 : ((linP b x).2.2 != 0) = false := by simp [h3]
          have hv2 : (lineV b x).2.2 = 0 := by rw [hlL]; exact h3
          have hv1 : (lineV b x).2.1 = ((linP b x).2.1 : Int) := by rw [hlL]
          have hv0 : (lineV b x).1 = (linP b x).1 := by rw [hlL]
          obtain ⟨n, hn, hn1, hn2⟩ := lineV_next hv2
          have hn' : (linP b x).2.1 = n := by omega
          obtain ⟨g, rfl, hst⟩ := prsA_step (l := anL l) hf h1 (by omega) hv2 hn
          rw [hv0] at hst
          have HSt := hide ((unhide HN).trans hst)
          unfold LiPost at hln
          rw [hn'] at hln
          have H3 := hide h3
          clear h2 h3 hst hn hv2 hv1 hv0 hlL HN hn'
          generalize (linP b x).2.2 = e9 at *
          generalize (linP b x).1 = A at *
          go_wp2
          go_quiet (fail)
          go_wp2_with fail
          refine (hln nq).mono ?_
          rintro e w1 ⟨rv, rfl, hs1, hg1, hp⟩
          obtain ⟨p, hN, rfl, rfl, ho1, ho2⟩ := hp (unhide H3)
          clear hp hln
          have hgw : w.grownBy w1 (some sb) := gr_trans (gr_drewN hg nq) hg1
          have hz1 : (wr.drewN nq).heap.size = wr.heap.size := by simp
          rw [hz1] at ho1 ho2
          clear hz1
          obtain ⟨q1, d1, e1, -, k1, k2, r1, s1⟩ := ho1.shape
          obtain ⟨q2, d2, e2, -, k3, k4, r2, s2⟩ := ho2.shape
          cases e1
          cases e2
          rcases hN with ⟨L, a1, c1, rfl⟩ | rfl | ⟨L, a1, c1, rfl⟩
          · have hm := methS (.agg #[.slice a1 L.length c1])
            rw [show rpV ⟨⟨1, L, []⟩, a1, c1, none, 0⟩ = .iface 56 (.agg #[.slice a1 L.length c1]) from rfl]
            go_wp2_with fail
            refine (ansS_any a1 L.length c1 w1).mono ?_
            rintro e w2 ⟨rfl, hb2⟩
            have hb3 : Below w2.heap.size w2 (w2.alloc (.cells #[.int .i64 1, .slice a1 L.length c1, .slice none 0 0] 35)) := ballo _ _
            have S3 := (hs1.below hb2).below hb3
            have hg3 := gr_below (gr_below hgw hb2) hb3
            have OW := (((unhide HO).gr (gr_trans (gr_drewN (gr_refl _ (some sb)) nq) hg1) hsb (unhide HLW)).grown hb2).grown hb3
            have hp : RdPa (w2.alloc (.cells #[.int .i64 1, .slice a1 L.length c1, .slice none 0 0] 35)) ⟨⟨1, L, []⟩, a1, c1, none, 0⟩ := ⟨(r1.below hb2).below hb3, (r2.below hb2).below hb3⟩
            have hz2 := hb2.size
            have hz3 := hb3.size
            have ha : ∀ x, (Pa.a1 ⟨⟨1, L, []⟩, a1, c1, none, 0⟩ = some x ∨ Pa.a2 ⟨⟨1, L, []⟩, a1, c1, none, 0⟩ = some x) → (Value.slice a5 l.length c5).ownBlock ≠ some x.block ∧ x.block < (w2.alloc (.cells #[.int .i64 1, .slice a1 L.length c1, .slice none 0 0] 35)).heap.size := fun x hx => by
              have h : wr.heap.size ≤ x.block ∧ x.block < w1.heap.size := by
                rcases hx with e | e
                · exact s1 x e
                · exact s2 x e
              refine ⟨fun e => ?_, by omega⟩
              have := (World.ownsRow.lt (unhide HO).top _ e).2
              omega
            have hc : ∀ j, j < 3 → (w2.alloc (.cells #[.int .i64 1, .slice a1 L.length c1, .slice none 0 0] 35)).cell? ⟨w2.heap.size, j, none⟩ = (paC ⟨⟨1, L, []⟩, a1, c1, none, 0⟩)[j]? := fun j hj => by
              rcases (by omega : j = 0 ∨ j = 1 ∨ j = 2) with rfl | rfl | rfl <;> simp [paC]
            have hBW : w.heap.size ≤ (w2.alloc (.cells #[.int .i64 1, .slice a1 L.length c1, .slice none 0 0] 35)).heap.size := by have := hgw.size; omega
            have HMN := hide (show ∀ p ∈ l ++ [⟨⟨1, L, []⟩, a1, c1, none, 0⟩], p.an.out.length ≤ maxLen ∧ p.an.word.length ≤ maxLen from fun p hp => by
              rcases List.mem_append.1 hp with hp | hp
              · exact unhide HM p hp
              · rw [List.mem_singleton] at hp; subst hp; exact ⟨Nat.le_trans k1 k2, Nat.le_trans k3 k4⟩)
            have HLN := hide (show ∀ p ∈ l ++ [⟨⟨1, L, []⟩, a1, c1, none, 0⟩], ∀ y, (p.a1 = some y ∨ p.a2 = some y) → w.heap.size ≤ y.block from fun p hp y hy => by
              rcases List.mem_append.1 hp with hp | hp
              · exact unhide HLW p hp y hy
              · rw [List.mem_singleton] at hp; subst hp
                have h : wr.heap.size ≤ y.block := by
                  rcases hy with e | e
                  · exact (s1 y e).1
                  · exact (s2 y e).1
                omega)
            have HSN := hide (show prsA b b.length [] 0 = prsA b g (anL (l ++ [⟨⟨1, L, []⟩, a1, c1, none, 0⟩])) n by rw [unhide HSt]; simp [anL])
            have HAA := hide ha
            have HC := hide hc
            have HW := hide OW
            have HPP := hide hp
            have HB2 := hide hb2
            have HS3 := hide S3
            have HG3 := hide hg3
            clear HM HO HSt ha hc OW hp s1 s2 r1 r2 k1 k2 k3 k4 hb2 hb3 S3 hg3 ho1 ho2 hs1 hg1 hgw HLW
            go_wp2_with (at_builtin; refine wpl_pushPs rfl (.tmp 27) (.tmp 30) rfl w.heap.size (.slice a5 l.length c5) l rfl (unhide HW) ⟨⟨1, L, []⟩, a1, c1, none, 0⟩ (unhide HPP) (unhide HAA) w2.heap.size 1 rfl (unhide HC) (by omega) hBW ?_; intro v7 w7 ho7 hb7)
            have S7 := Sr.belowB (unhide HS3) hb7 hsb (unhide HA)
            exact ⟨⟨l ++ [⟨⟨1, L, []⟩, a1, c1, none, 0⟩], n, g, by omega, by omega, by simp; omega, hide ho7, HLN, HMN, hide S7, gr_belowB (unhide HG3) hb7 (Nat.le_refl _), HSN⟩, by rw [hat, S7.atW]; omega⟩
          · have hm := methY (.agg #[])
            rw [show rpV ⟨⟨2, [], []⟩, none, 0, none, 0⟩ = .iface 59 (.agg #[]) from rfl]
            go_wp2_with fail
            refine (ansY_any w1).mono ?_
            rintro e w2 ⟨rfl, hb2⟩
            have hb3 : Below w2.heap.size w2 (w2.alloc (.cells #[.int .i64 2, .slice none 0 0, .slice none 0 0] 35)) := ballo _ _
            have S3 := (hs1.below hb2).below hb3
            have hg3 := gr_below (gr_below hgw hb2) hb3
            have OW := (((unhide HO).gr (gr_trans (gr_drewN (gr_refl _ (some sb)) nq) hg1) hsb (unhide HLW)).grown hb2).grown hb3
            have hp : RdPa (w2.alloc (.cells #[.int .i64 2, .slice none 0 0, .slice none 0 0] 35)) ⟨⟨2, [], []⟩, none, 0, none, 0⟩ := ⟨(r1.below hb2).below hb3, (r2.below hb2).below hb3⟩
            have hz2 := hb2.size
            have hz3 := hb3.size
            have ha : ∀ x, (Pa.a1 ⟨⟨2, [], []⟩, none, 0, none, 0⟩ = some x ∨ Pa.a2 ⟨⟨2, [], []⟩, none, 0, none, 0⟩ = some x) → (Value.slice a5 l.length c5).ownBlock ≠ some x.block ∧ x.block < (w2.alloc (.cells #[.int .i64 2, .slice none 0 0, .slice none 0 0] 35)).heap.size := fun x hx => by
              have h : wr.heap.size ≤ x.block ∧ x.block < w1.heap.size := by
                rcases hx with e | e
                · exact s1 x e
                · exact s2 x e
              refine ⟨fun e => ?_, by omega⟩
              have := (World.ownsRow.lt (unhide HO).top _ e).2
              omega
            have hc : ∀ j, j < 3 → (w2.alloc (.cells #[.int .i64 2, .slice none 0 0, .slice none 0 0] 35)).cell? ⟨w2.heap.size, j, none⟩ = (paC ⟨⟨2, [], []⟩, none, 0, none, 0⟩)[j]? := fun j hj => by
              rcases (by omega : j = 0 ∨ j = 1 ∨ j = 2) with rfl | rfl | rfl <;> simp [paC]
            have hBW : w.heap.size ≤ (w2.alloc (.cells #[.int .i64 2, .slice none 0 0, .slice none 0 0] 35)).heap.size := by have := hgw.size; omega
            have HMN := hide (show ∀ p ∈ l ++ [⟨⟨2, [], []⟩, none, 0, none, 0⟩], p.an.out.length ≤ maxLen ∧ p.an.word.length ≤ maxLen from fun p hp => by
              rcases List.mem_append.1 hp with hp | hp
              · exact unhide HM p hp
              · rw [List.mem_singleton] at hp; subst hp; exact ⟨Nat.le_trans k1 k2, Nat.le_trans k3 k4⟩)
            have HLN := hide (show ∀ p ∈ l ++ [⟨⟨2, [], []⟩, none, 0, none, 0⟩], ∀ y, (p.a1 = some y ∨ p.a2 = some y) → w.heap.size ≤ y.block from fun p hp y hy => by
              rcases List.mem_append.1 hp with hp | hp
              · exact unhide HLW p hp y hy
              · rw [List.mem_singleton] at hp; subst hp
                have h : wr.heap.size ≤ y.block := by
                  rcases hy with e | e
                  · exact (s1 y e).1
                  · exact (s2 y e).1
                omega)
            have HSN := hide (show prsA b b.length [] 0 = prsA b g (anL (l ++ [⟨⟨2, [], []⟩, none, 0, none, 0⟩])) n by rw [unhide HSt]; simp [anL])
            have HAA := hide ha
            have HC := hide hc
            have HW := hide OW
            have HPP := hide hp
            have HB2 := hide hb2
            have HS3 := hide S3
            have HG3 := hide hg3
            clear HM HO HSt ha hc OW hp s1 s2 r1 r2 k1 k2 k3 k4 hb2 hb3 S3 hg3 ho1 ho2 hs1 hg1 hgw HLW
            go_wp2_with (at_builtin; refine wpl_pushPs rfl (.tmp 27) (.tmp 30) rfl w.heap.size (.slice a5 l.length c5) l rfl (unhide HW) ⟨⟨2, [], []⟩, none, 0, none, 0⟩ (unhide HPP) (unhide HAA) w2.heap.size 1 rfl (unhide HC) (by omega) hBW ?_; intro v7 w7 ho7 hb7)
            have S7 := Sr.belowB (unhide HS3) hb7 hsb (unhide HA)
            exact ⟨⟨l ++ [⟨⟨2, [], []⟩, none, 0, none, 0⟩], n, g, by omega, by omega, by simp; omega, hide ho7, HLN, HMN, hide S7, gr_belowB (unhide HG3) hb7 (Nat.le_refl _), HSN⟩, by rw [hat, S7.atW]; omega⟩
          · have hm := methN (.agg #[.slice a1 L.length c1])
            rw [show rpV ⟨⟨3, [], L⟩, none, 0, a1, c1⟩ = .iface 61 (.agg #[.slice a1 L.length c1]) from rfl]
            go_wp2_with fail
            refine (ansN_any a1 L.length c1 w1).mono ?_
            rintro e w2 ⟨rfl, hb2⟩
            have hb3 : Below w2.heap.size w2 (w2.alloc (.cells #[.int .i64 3, .slice none 0 0, .slice a1 L.length c1] 35)) := ballo _ _
            have S3 := (hs1.below hb2).below hb3
            have hg3 := gr_below (gr_below hgw hb2) hb3
            have OW := (((unhide HO).gr (gr_trans (gr_drewN (gr_refl _ (some sb)) nq) hg1) hsb (unhide HLW)).grown hb2).grown hb3
            have hp : RdPa (w2.alloc (.cells #[.int .i64 3, .slice none 0 0, .slice a1 L.length c1] 35)) ⟨⟨3, [], L⟩, none, 0, a1, c1⟩ := ⟨(r1.below hb2).below hb3, (r2.below hb2).below hb3⟩
            have hz2 := hb2.size
            have hz3 := hb3.size
            have ha : ∀ x, (Pa.a1 ⟨⟨3, [], L⟩, none, 0, a1, c1⟩ = some x ∨ Pa.a2 ⟨⟨3, [], L⟩, none, 0, a1, c1⟩ = some x) → (Value.slice a5 l.length c5).ownBlock ≠ some x.block ∧ x.block < (w2.alloc (.cells #[.int .i64 3, .slice none 0 0, .slice a1 L.length c1] 35)).heap.size := fun x hx => by
              have h : wr.heap.size ≤ x.block ∧ x.block < w1.heap.size := by
                rcases hx with e | e
                · exact s1 x e
                · exact s2 x e
              refine ⟨fun e => ?_, by omega⟩
              have := (World.ownsRow.lt (unhide HO).top _ e).2
              omega
            have hc : ∀ j, j < 3 → (w2.alloc (.cells #[.int .i64 3, .slice none 0 0, .slice a1 L.length c1] 35)).cell? ⟨w2.heap.size, j, none⟩ = (paC ⟨⟨3, [], L⟩, none, 0, a1, c1⟩)[j]? := fun j hj => by
              rcases (by omega : j = 0 ∨ j = 1 ∨ j = 2) with rfl | rfl | rfl <;> simp [paC]
            have hBW : w.heap.size ≤ (w2.alloc (.cells #[.int .i64 3, .slice none 0 0, .slice a1 L.length c1] 35)).heap.size := by have := hgw.size; omega
            have HMN := hide (show ∀ p ∈ l ++ [⟨⟨3, [], L⟩, none, 0, a1, c1⟩], p.an.out.length ≤ maxLen ∧ p.an.word.length ≤ maxLen from fun p hp => by
              rcases List.mem_append.1 hp with hp | hp
              · exact unhide HM p hp
              · rw [List.mem_singleton] at hp; subst hp; exact ⟨Nat.le_trans k1 k2, Nat.le_trans k3 k4⟩)
            have HLN := hide (show ∀ p ∈ l ++ [⟨⟨3, [], L⟩, none, 0, a1, c1⟩], ∀ y, (p.a1 = some y ∨ p.a2 = some y) → w.heap.size ≤ y.block from fun p hp y hy => by
              rcases List.mem_append.1 hp with hp | hp
              · exact unhide HLW p hp y hy
              · rw [List.mem_singleton] at hp; subst hp
                have h : wr.heap.size ≤ y.block := by
                  rcases hy with e | e
                  · exact (s1 y e).1
                  · exact (s2 y e).1
                omega)
            have HSN := hide (show prsA b b.length [] 0 = prsA b g (anL (l ++ [⟨⟨3, [], L⟩, none, 0, a1, c1⟩])) n by rw [unhide HSt]; simp [anL])
            have HAA := hide ha
            have HC := hide hc
            have HW := hide OW
            have HPP := hide hp
            have HB2 := hide hb2
            have HS3 := hide S3
            have HG3 := hide hg3
            clear HM HO HSt ha hc OW hp s1 s2 r1 r2 k1 k2 k3 k4 hb2 hb3 S3 hg3 ho1 ho2 hs1 hg1 hgw HLW
            go_wp2_with (at_builtin; refine wpl_pushPs rfl (.tmp 27) (.tmp 30) rfl w.heap.size (.slice a5 l.length c5) l rfl (unhide HW) ⟨⟨3, [], L⟩, none, 0, a1, c1⟩ (unhide HPP) (unhide HAA) w2.heap.size 1 rfl (unhide HC) (by omega) hBW ?_; intro v7 w7 ho7 hb7)
            have S7 := Sr.belowB (unhide HS3) hb7 hsb (unhide HA)
            exact ⟨⟨l ++ [⟨⟨3, [], L⟩, none, 0, a1, c1⟩], n, g, by omega, by omega, by simp; omega, hide ho7, HLN, HMN, hide S7, gr_belowB (unhide HG3) hb7 (Nat.le_refl _), HSN⟩, by rw [hat, S7.atW]; omega⟩
        · have t3 : ((linP b x).2.2 != 0) = true := by simpa using h3
          have HE := hide ((unhide HN).trans ((prsA_bad hf h1 (by omega) (by rw [hlL]; exact h3)).trans (by rw [hlL])))
          unfold LiPost at hln
          clear h2 h3 hlL HN
          go_wp2
          go_quiet (fail)
          go_wp2_with fail
          refine (hln nq).mono ?_
          rintro e w1 ⟨rv, rfl, hs1, hg1, -⟩
          clear hln
          generalize linP b x = R at *
          go_wp2
          go_ret2
          exact ⟨_, [], R.2.1, by rw [unhide HE]; rfl, OwnPs.nil _ _, by rw [unhide HE]; rfl, fun _ h => (by cases h), by rw [unhide HE], hs1, gr_trans (gr_drewN hg nq) hg1⟩
    · have h1' : ¬ ((x : Int) < (b.length : Int)) := by omega
      have HE := hide ((unhide HN).trans (prsA_end h1))
      go_wp2
      go_quiet (fail)
      go_wp2
      go_ret2
      obtain rfl : x = b.length := by omega
      exact ⟨_, l, b.length, by rw [unhide HE]; rfl, (unhide HO).grown (below_drewN (Below.refl _ _) _), by rw [unhide HE], unhide HM, by rw [unhide HE], (unhide HS).drewN _, gr_drewN hg _⟩

set_option maxRecDepth 100000 in
set_option maxHeartbeats 4000000 in
theorem tparse_any (a : Option Addr) (c : Nat) (b : List UInt8) (w : World) (hr : RdL .u8 w a (zs b)) (hl : b.length ≤ maxLen) :
    Calls Tryd.prog 10 #[.slice a b.length c] w (PaPost w (parV b)) := by
  unfold maxLen at hl
  by_cases hm : 16777216 < b.length
  · have HE := hide (show parV b = ([], 2, 0) by unfold parV; rw [if_pos hm])
    have hm' : (b.length : Int) > 16777216 := by omega
    go_enter Tryd.func10, Tryd.ntmps10
    go_wp2
    go_ret3
    exact ⟨none, 0, [], by rw [unhide HE]; rfl, RdPs.nil _ _, by rw [unhide HE]; rfl, fun _ h => (by cases h), Below.refl _ _⟩
  have hm' : ¬ ((b.length : Int) > 16777216) := by omega
  have HP := hide (show parV b = prsA b b.length [] 0 by unfold parV; rw [if_neg hm])
  have b0 := ballo w (.cells #[.slice a b.length c, .int .i64 0] 50)
  have HB0 := hide b0
  have S0 : Sr (w.alloc (.cells #[.slice a b.length c, .int .i64 0] 50)) w.heap.size a c b 0 := ⟨by simp, by simp, by rw [frozen?_alloc_cells]; exact frzN _ (Nat.le_refl _), hr.below b0, Nat.zero_le _, fun h0 x hx => by have := hr.blk (by rw [zs_len]; exact h0) x hx; omega⟩
  have han := answers_any w.heap.size a c b _ S0 (by omega)
  have hz : (w.alloc (.cells #[.slice a b.length c, .int .i64 0] 50)).heap.size = w.heap.size + 1 := by simp
  clear hr b0 S0 hm
  go_enter Tryd.func10, Tryd.ntmps10
  go_wp2_with fail
  refine han.mono ?_
  rintro e w1 ⟨lv, l, j, rfl, ho, hal, hml, hj, hs, hg⟩
  obtain ⟨a5, c5, rfl, hrd⟩ := ho.rd
  have HBB := hide (below_gr (B := w.heap.size) (unhide HB0) hg (Nat.le_refl _) (by omega))
  obtain ⟨p0, p1, pf, -, -, -⟩ := id hs
  clear han hz ho hg hs pf
  generalize prsA b b.length [] 0 = R at *
  go_wp2
  go_quiet (fail)
  go_wp2
  go_ret3
  refine ⟨a5, c5, l, by rw [unhide HP, hj]; rfl, hrd.below (below_drewN (Below.refl _ _) _), by rw [unhide HP]; exact hal, hml, ?_⟩
  exact below_drewN (unhide HBB) _

end Go.Proofs.YtagoilabphmdfaaDoor
