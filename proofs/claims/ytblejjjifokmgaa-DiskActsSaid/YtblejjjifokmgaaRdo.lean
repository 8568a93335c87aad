/- The contract of the reference function Do of layer 7, whatever act. -/
import Derived.Test.YtblejjjifokmgaaRfO0
import Derived.Test.YtblejjjifokmgaaRfO1
import Derived.Test.YtblejjjifokmgaaRfO2
import Derived.Test.YtblejjjifokmgaaRfO3
import Derived.Test.YtblejjjifokmgaaRfO4
import Derived.Test.YtblejjjifokmgaaRfO5
import Derived.Test.YtblejjjifokmgaaRfO6
namespace Go.Proofs.Ytblejjjifokmgaa
open Go.RowKit Go.Maps Dk

theorem rdo_any {w : World} {v : Value} {L : List Rf} {S : List Nat} (hv : RdF w S v L) (hS : ∀ k ∈ S, k < w.heap.size) (hL : L.length ≤ 100000) (most : Nat) (hI : Inv most (L.map Rf.fl)) (x : AcV) (hx : RdS w S x.bx x.a.b) (hk : RdV w S x.kx (x.a.ks.map iv)) (hkr : ∀ q ∈ x.a.ks, inR q) (hb : x.a.b.length ≤ 1000000) (h0 : 0 ≤ x.a.op) (h6 : x.a.op ≤ 6) :
    Calls Try.prog 8 #[v, .int .i64 (most : Int), .agg (cells6 x).toArray] w fun e w' => RRes w w' S (doF most x.a (L.map Rf.fl)) e := by
  obtain ⟨⟨op, nm, ot, b, at_, ks⟩, bx, kx⟩ := x
  have hs : Srt rk L := rl_srt.1 hI.srt
  have hmost := hI.capb
  have htot : total (L.map Rf.fl) ≤ 65536 := Nat.le_trans hI.tot hI.capb
  have hlen : ∀ f ∈ L, f.fl.l.length ≤ 100000 := fun f hf => by
    have := len_le_total (List.mem_map.2 ⟨f, hf, rfl⟩ : f.fl ∈ L.map Rf.fl)
    omega
  have hfine : ∀ f ∈ L, f.fl.s ≤ f.fl.l.length := fun f hf => hI.fine f.fl (List.mem_map.2 ⟨f, hf, rfl⟩)
  show Calls Try.prog 8 #[v, .int .i64 (most : Int), .agg #[.int .i64 op, .string nm, .string ot, bx, .int .i64 at_, kx]] w fun e w' => RRes w w' S (doF most ⟨op, nm, ot, b, at_, ks⟩ (L.map Rf.fl)) e
  have h0 : 0 ≤ op := h0
  have h6 : op ≤ 6 := h6
  unfold doF
  by_cases e0 : op = 0
  · subst e0; rw [if_pos rfl]; exact rdo0 hv hS hs hL most hmost hlen htot nm ot bx kx b at_ ks hx hk hb
  rw [if_neg e0]
  by_cases e1 : op = 1
  · subst e1; rw [if_pos rfl]; exact rdo1 hv hS hs hL most hmost hlen nm ot bx kx b at_ ks hx hk hb
  rw [if_neg e1]
  by_cases e2 : op = 2
  · subst e2; rw [if_pos rfl]; exact rdo2 hv hS hs hL most hmost hlen nm ot bx kx b at_ ks hx hk hb
  rw [if_neg e2]
  by_cases e3 : op = 3
  · subst e3; rw [if_pos rfl]; exact rdo3 hv hS hs hL most hmost hlen nm ot bx kx b at_ ks hx hk hb
  rw [if_neg e3]
  by_cases e4 : op = 4
  · subst e4; rw [if_pos rfl]; exact rdo4 hv hS hs hL most hmost hlen nm ot bx kx b at_ ks hx hk hb
  rw [if_neg e4]
  by_cases e6 : op = 6
  · subst e6; rw [if_pos rfl]; exact rdo6 hv hS hs hL most hmost hlen nm ot bx kx b at_ ks hx hk hb
  rw [if_neg e6]
  obtain rfl : op = 5 := by omega
  exact rdo5 hv hS hs hL most hmost hlen hfine nm ot bx kx b at_ ks hx hk hkr hb
end Go.Proofs.Ytblejjjifokmgaa
