/-
  The reference's Put of layer 11, whatever comes.
-/
import Derived.Test.YtemalidanjfmkaaCPutK
namespace Go.Proofs.Ytemalidanjfmkaa
open Go.RowKit

theorem rput_any (p : Cv) (a : Option Addr) (c : Nat) (v : List Int) (a' : Option Addr) (c' : Nat) (out : List Int) (w : World) (hr : RdC w p) (hv : RdL .i64 w a v) (ho : RdL .i64 w a' out) (lv : v.length ≤ 5000) (lo : out.length ≤ 5000) (hca : v.length ≤ c) (hna : a = none → v.length = 0 ∧ c = 0) (hcb : out.length ≤ c') (hnb : a' = none → out.length = 0 ∧ c' = 0) (hcc : c ≤ maxLen) (hcd : c' ≤ maxLen) (hk : Cok p) (hlw : p.ws.length ≤ 100000) (hlb : p.bg.length ≤ 10000000) :
    Calls Try.prog 16 #[cvV p, .slice a v.length c, .slice a' out.length c'] w (PkPost w p (putV p.cs v out)) := by
  by_cases h1 : wdE v p.k = 0
  · by_cases h2 : chkA ⟨1, v, ⟨p.kind, p.k, p.o, 0, [], []⟩⟩ ⟨1, out, []⟩ = 0
    · cases h3 : clsV p.cs v out with
      | false => exact rputC_ok p a c v a' c' out w hr hv ho lv lo hca hna hcb hnb hcc hcd h1 h2 h3 hk hlw hlb
      | true => exact (rputC_clash p a c v a' c' out w hr hv ho lv lo hca hna hcb hnb hcc hcd h1 h2 h3).mono fun e w' ⟨q1, q2, q3, q4⟩ => ⟨p, q1, q2, q3, hk, q4, fun X hX hS wz hz => hS wz (bx_down q4 hz)⟩
    · exact (rputC_ans p a c v a' c' out w hr hv ho lv lo hca hna hcb hnb hcc hcd h1 h2).mono fun e w' ⟨q1, q2, q3, q4⟩ => ⟨p, q1, q2, q3, hk, q4, fun X hX hS wz hz => hS wz (bx_down q4 hz)⟩
  · exact (rputC_word p a c v a' c' out w hr hv ho lv lo hca hna hcb hnb hcc hcd h1).mono fun e w' ⟨q1, q2, q3, q4⟩ => ⟨p, q1, q2, q3, hk, q4, fun X hX hS wz hz => hS wz (bx_down q4 hz)⟩

end Go.Proofs.Ytemalidanjfmkaa
