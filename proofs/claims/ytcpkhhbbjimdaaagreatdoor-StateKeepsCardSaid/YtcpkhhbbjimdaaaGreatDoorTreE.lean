/- slices.IndexFunc and slices.DeleteFunc over cells, by the rows that Scan leaves out. slices.IndexFunc and slices.DeleteFunc over cells, by the rows that Scan leaves out. slices.DeleteFunc over cells, by the rows that Scan leaves out. All cells of a tree. A tree's Scan. -/
import Derived.Test.YtcpkhhbbjimdaaaGreatDoorTreA
import Derived.Test.YtcpkhhbbjimdaaaGreatDoorMgR
import Derived.Test.YtcpkhhbbjimdaaaGreatDoorMemA
import Derived.Test.YtcpkhhbbjimdaaaGreatDoorTreB
import Derived.Test.YtcpkhhbbjimdaaaGreatDoorMgC
import Derived.Deep.RegionHeld3
import Derived.Test.YtcpkhhbbjimdaaaGreatDoorMgD
set_option maxHeartbeats 8000000
set_option maxRecDepth 100000
namespace Go.Proofs.YtcpkhhbbjimdaaaGreatDoor.Ce
open Go.RowKit
structure Bds (b1 b2 : Nat) (fr hi : ByteArray) (w : World) : Prop where
 r1 : w.heap[b1]? = some (.cells #[.string fr] 9 (0, 0))
 r2 : w.heap[b2]? = some (.cells #[.string hi] 9 (0, 0))
theorem Bds.up {b1 b2 : Nat} {fr hi : ByteArray} {w w' : World} (h : Bds b1 b2 fr hi w) (hb : Below w.heap.size w w') : Bds b1 b2 fr hi w' :=
 ⟨(hb.block _ (Array.getElem?_eq_some_iff.1 h.r1).1).trans h.r1, (hb.block _ (Array.getElem?_eq_some_iff.1 h.r2).1).trans h.r2⟩
def outS (fr hi : ByteArray) (c : Cl) : Bool := decide (c.row.data.toList < fr.data.toList) || (decide (hi.size ≠ 0) && decide (¬ c.row.data.toList < hi.data.toList))
theorem inS_out (fr hi : ByteArray) (c : Cl) : inS fr hi c = !outS fr hi c := by
 unfold inS outS
 by_cases h1 : c.row.data.toList < fr.data.toList <;> by_cases h2 : hi.size = 0 <;> by_cases h3 : c.row.data.toList < hi.data.toList <;> simp [h1, h2, h3]
theorem scanC_any (c : Cl) (b1 b2 : Nat) (fr hi : ByteArray) (w : World) (h : Bds b1 b2 fr hi w) :
  Calls Tryz.prog 76 #[c.v, .pointer (some ⟨b1, 0, none⟩), .pointer (some ⟨b2, 0, none⟩)] w fun e w' => e = .returned (.bool (outS fr hi c)) ∧ Below w.heap.size w w' := by
 have HQ : Hid (∀ q : Bool, q = (decide (c.row.data.toList < fr.data.toList) || (decide (hi.size ≠ 0) && decide (¬ c.row.data.toList < hi.data.toList))) → q = outS fr hi c) := Lib.hid fun q h => h
 generalize outS fr hi c = r at *
 have HW := Lib.hid h
 clear h
 go_enter Tryz.func76, Tryz.ntmps76
 go_wp2_with (refine boxC rfl (.tmp 0) c rfl rfl ?_)
 constructor
 intro w1 hI1 hb1 _
 have c0 := hI1.c0
 have hw := HW.out.up hb1
 have c1 : w1.cell? ⟨b1, 0, none⟩ = some (.string fr) := cell_of_row _ _ 0 _ _ _ hw.r1
 have c2 : w1.cell? ⟨b2, 0, none⟩ = some (.string hi) := cell_of_row _ _ 0 _ _ _ hw.r2
 have HB := Lib.hid hb1
 clear hI1 hw hb1
 have h1 := bless c.row fr
 have h2 := bless c.row hi
 obtain ⟨x1, hx1⟩ : ∃ x1, x1 = Op.bytesLess c.row.toList fr.toList := ⟨_, rfl⟩
 obtain ⟨x2, hx2⟩ : ∃ x2, x2 = Op.bytesLess c.row.toList hi.toList := ⟨_, rfl⟩
 rw [← hx1] at h1
 rw [← hx2] at h2
 have g1 := hx1.symm
 have g2 := hx2.symm
 clear hx1 hx2
 by_cases hz : hi.size = 0
 ·have e0 := empB hz
  have HF := Lib.hid (HQ.out x1 (by rw [h1]; simp [hz]))
  clear h1 h2
  cases x1
  ·go_wp2_with fail
   go_ret
   rw [← HF.out]
   exact ⟨rfl, HB.out⟩
  ·go_wp2_with fail
   go_ret
   rw [← HF.out]
   exact ⟨rfl, HB.out⟩
 ·have e0 := nempB hz
  have HF := Lib.hid (HQ.out (x1 || !x2) (by rw [h1, h2]; by_cases k1 : c.row.data.toList < fr.data.toList <;> by_cases k2 : c.row.data.toList < hi.data.toList <;> simp [k1, k2, hz]))
  clear h1 h2
  cases x1
  ·cases x2
   ·go_wp2_with fail
    go_ret
    rw [← HF.out]
    exact ⟨rfl, HB.out⟩
   ·go_wp2_with fail
    go_ret
    rw [← HF.out]
    exact ⟨rfl, HB.out⟩
  ·go_wp2_with fail
   go_ret
   rw [← HF.out]
   exact ⟨rfl, HB.out⟩
end Go.Proofs.YtcpkhhbbjimdaaaGreatDoor.Ce
namespace Go.Proofs.YtcpkhhbbjimdaaaGreatDoor.Ce
open Go.RowKit
theorem zeros_len (m : Nat) : (Builtin.zeroCells Cl.zero.cs m).toList.length = m * 5 := by simp [Builtin.zeroCells, Cl.cs]
theorem zeros_one (m : Nat) : ∀ v ∈ (Builtin.zeroCells Cl.zero.cs m).toList, v.oneCell' = true := fun v hv => by
 simp only [Builtin.zeroCells, Array.toList_map, List.mem_map] at hv
 obtain ⟨i, -, rfl⟩ := hv
 have h5 : Cl.zero.cs.size = 5 := rfl
 rw [h5]
 have : i % 5 < 5 := Nat.mod_lt _ (by decide)
 generalize i % 5 = k at this
 match k, this with
 | 0, _ => rfl
 | 1, _ => rfl
 | 2, _ => rfl
 | 3, _ => rfl
 | 4, _ => rfl
 | k + 5, h => omega
theorem run_clearL (w : World) (ty : TypeId) (g o m cp : Nat) (cur : Array Value) (hm : 0 < m) (hg : w.heap[g]? = some (.cells cur 47 (0, 0))) (hfit : o + m * 5 ≤ cur.size) :
  (Builtin.clear_ #[27] ty #[.slice (some ⟨g, o, none⟩) m cp]).run Tryz.prog w = .ok (.tuple #[]) (w.setRow g (cur.toList.take o ++ (Builtin.zeroCells Cl.zero.cs m).toList ++ cur.toList.drop (o + m * 5)).toArray) := by
 obtain ⟨i, hi, hi0, hi1, hi2⟩ := info_parts cellInfo
 have hz : (zeroValue 47).run Tryz.prog w = .ok (.agg Cl.zero.cs) w := by simp [zeroValue, typeInfo, hi, hi0]
 have hst := run_storeCells_at Tryz.prog g o 47 (Builtin.zeroCells Cl.zero.cs m).toList 0 cur w hg (by rw [zeros_len]; simpa using hfit) (zeros_one m)
 rw [Nat.add_zero, zeros_len] at hst
 obtain ⟨k, rfl⟩ : ∃ k, m = k + 1 := ⟨m - 1, by omega⟩
 simp [Builtin.clear_, run_underlying Tryz.underlying27, hz, Value.cells, hst]
theorem wpList_clearL {ops : Array Oper} {rest : List Oper} {p : Oper} {a : Act} {Q : Exit → Act → World → Prop} {w : World} {g o m cp : Nat} {cur : Array Value} (hgd : p.guard = none) (d : Operand)
  (ho : p.op = .call { callee := .builtin .clear, args := #[d], argTypes := #[27] }) (hd : a.eval d = .slice (some ⟨g, o, none⟩) m cp) (hm : 0 < m) (hg : w.heap[g]? = some (.cells cur 47 (0, 0))) (hfit : o + m * 5 ≤ cur.size)
  (h : Held (∀ w' cur', Turned g cur' w w' → cur'.size = cur.size → cur'.toList.take o = cur.toList.take o → wpList Tryz.prog ops Q rest (a.put p.dst (.tuple #[])) w')) : wpList Tryz.prog ops Q (p :: rest) a w := by
 have hrun := run_clearL w p.type g o m cp cur hm hg hfit
 refine wpList_plain hgd fun K hK => ?_
 unfold Oper.wp execOp
 simp only [ho, resolve, invoke, builtin, Sem.run_bind, Sem.run_pure, Result.andThen_ok, List.map_toArray, List.map_cons, List.map_nil, hd, hrun]
 have hz := zeros_len m
 refine hK _ _ (h.out _ _ (Turned.of _ hg) ?_ ?_)
 ·simp only [List.size_toArray, List.length_append, List.length_take, List.length_drop, Array.length_toList, hz]
  omega
 ·show List.take o (_ ++ _ ++ _) = _
  rw [List.append_assoc, List.take_append_of_le_length (by simp; omega), List.take_take, Nat.min_self]
def IdxEnd (fr hi : ByteArray) (V : List Cl) (e : Ending) : Prop :=
 (∃ k c, V[k]? = some c ∧ outS fr hi c = true ∧ (∀ d ∈ V.take k, outS fr hi d = false) ∧ e = .returned (.int .i64 (k : Int))) ∨ ((∀ d ∈ V, outS fr hi d = false) ∧ e = .returned (.int .i64 (-1)))
theorem idxf_any (v : Value) (V : List Cl) (b1 b2 : Nat) (fr hi : ByteArray) (w : World) (hv : RdL w [] v V) (hb : Bds b1 b2 fr hi w) (hl : V.length ≤ 1000000) :
  Calls Tryz.prog 93 #[v, .func (.func 76) #[] #[.pointer (some ⟨b1, 0, none⟩), .pointer (some ⟨b2, 0, none⟩)]] w fun e w' => IdxEnd fr hi V e ∧ Below w.heap.size w w' := by
 obtain ⟨A, c, rfl, hc, hm⟩ := hv.shape
 unfold maxLen at hm
 have HV := Lib.hid hv
 have HBD := Lib.hid hb
 clear hv hb
 go_enter Tryz.func93, Tryz.ntmps93
 go_wp2_with fail
 go_loopw [8] (fun i wr => ∃ k : Nat, k ≤ V.length ∧ i = .int .i64 (k : Int) ∧ Hid (∀ d ∈ V.take k, outS fr hi d = false) ∧ Below w.heap.size w wr) (fun i _ => V.length - (intOf i).toNat)
 case atStart => exact ⟨0, Nat.zero_le _, rfl, Lib.hid (by simp), Below.refl _ _⟩
 case round =>
  obtain ⟨k, hk, rfl, HK, hbw⟩ := hrel
  have HBW := Lib.hid hbw
  obtain ⟨wo, hwo⟩ : ∃ wo, wo = wr := ⟨_, rfl⟩
  subst hwo
  by_cases hlt : k < V.length
  ·obtain ⟨b, off, rfl, -, -⟩ := HV.out.open_ (by omega)
   have hh3 : (0 : Int) ≤ (k : Int) := by omega
   have hh4 : (k : Int) < (V.length : Int) := by omega
   have hfk : V[k]? = some (V[k]'hlt) := List.getElem?_eq_getElem _
   generalize V[k]'hlt = f at hfk
   obtain ⟨⟨c0, c1, c2, c3, c4⟩, -⟩ := (HV.out.bel hbw).at_ hfk
   have HFK := Lib.hid hfk
   have HSC := Lib.hid (scanC_any f b1 b2 fr hi wo (HBD.out.up hbw))
   have HTS : Hid (outS fr hi f = false → ∀ d ∈ V.take (k + 1), outS fr hi d = false) := Lib.hid fun h d hd => by
    rw [List.take_succ_eq_append_getElem hlt, List.mem_append, List.mem_singleton] at hd
    rcases hd with q | q
    ·exact HK.out d q
    ·rw [q, (List.getElem?_eq_some_iff.1 HFK.out).2]
     exact h
   have HOQ : Hid (∃ q, q = outS fr hi f) := Lib.hid ⟨_, rfl⟩
   obtain ⟨q, hq⟩ := HOQ.out
   rw [← hq] at HSC HTS
   have HQ := Lib.hid hq
   clear hfk hbw hq HOQ
   go_wp2_with fail
   refine HSC.out.mono ?_
   rintro e w2 ⟨rfl, hb2⟩
   have HB2 := Lib.hid (bwstep HBW.out hb2)
   clear hb2
   cases q
   ·go_wp2_with fail
    go_roundw
    case rel => exact ⟨k + 1, by omega, by go_num, Lib.hid (HTS.out (by simp)), HB2.out⟩
    case measure => simp [intOf]; omega
   ·go_wp2_with fail
    go_ret
    exact ⟨.inl ⟨k, f, HFK.out, HQ.out.symm, HK.out, rfl⟩, HB2.out⟩
  ·obtain rfl : k = V.length := by omega
   rw [List.take_length] at HK
   go_wp2_with fail
   go_ret
   exact ⟨.inr ⟨HK.out, rfl⟩, HBW.out⟩
end Go.Proofs.YtcpkhhbbjimdaaaGreatDoor.Ce
namespace Go.Proofs.YtcpkhhbbjimdaaaGreatDoor.Ce
open Go.RowKit
structure DelS (fr hi : ByteArray) (V W : List Cl) (i j : Nat) : Prop where
 len : W.length = V.length
 ij : i < j
 jl : j ≤ V.length
 tk : W.take i = (V.take j).filter (inS fr hi)
 dr : W.drop j = V.drop j
theorem DelS.start {fr hi : ByteArray} {V : List Cl} {k : Nat} {c : Cl} (hc : V[k]? = some c) (ho : outS fr hi c = true) (hk : ∀ d ∈ V.take k, outS fr hi d = false) : DelS fr hi V V k (k + 1) := by
 obtain ⟨hl, he⟩ := List.getElem?_eq_some_iff.1 hc
 refine ⟨rfl, by omega, by omega, ?_, rfl⟩
 rw [List.take_succ_eq_append_getElem hl, List.filter_append, he]
 have h1 : inS fr hi c = false := by rw [inS_out, ho]; rfl
 have h2 : (V.take k).filter (inS fr hi) = V.take k := List.filter_eq_self.2 fun d hd => by rw [inS_out, hk d hd]; rfl
 rw [h2]
 simp [h1]
theorem DelS.at_ {fr hi : ByteArray} {V W : List Cl} {i j : Nat} (h : DelS fr hi V W i j) : W[j]? = V[j]? := by
 have := congrArg (fun L => L[0]?) h.dr
 simpa using this
theorem DelS.skip {fr hi : ByteArray} {V W : List Cl} {i j : Nat} {f : Cl} (h : DelS fr hi V W i j) (hf : V[j]? = some f) (ho : outS fr hi f = true) : DelS fr hi V W i (j + 1) := by
 obtain ⟨hl, he⟩ := List.getElem?_eq_some_iff.1 hf
 have h1 : inS fr hi f = false := by rw [inS_out, ho]; rfl
 refine ⟨h.len, by have := h.ij; omega, by omega, ?_, ?_⟩
 ·rw [h.tk, List.take_succ_eq_append_getElem hl, List.filter_append, he]
  simp [h1]
 ·have := congrArg (List.drop 1) h.dr
  simpa [List.drop_drop] using this
theorem DelS.keep {fr hi : ByteArray} {V W : List Cl} {i j : Nat} {f : Cl} (h : DelS fr hi V W i j) (hf : V[j]? = some f) (ho : outS fr hi f = false) : DelS fr hi V (W.set i f) (i + 1) (j + 1) := by
 obtain ⟨hl, he⟩ := List.getElem?_eq_some_iff.1 hf
 have h1 : inS fr hi f = true := by rw [inS_out, ho]; rfl
 have hij := h.ij
 have hlen := h.len
 refine ⟨by rw [List.length_set, h.len], by omega, by omega, ?_, ?_⟩
 ·rw [List.take_succ_eq_append_getElem (by rw [List.length_set]; omega), List.getElem_set_self, List.take_set_of_le (Nat.le_refl _), h.tk, List.take_succ_eq_append_getElem hl, List.filter_append, he]
  simp [h1]
 ·rw [List.drop_set_of_lt (by omega)]
  have := congrArg (List.drop 1) h.dr
  simpa [List.drop_drop] using this
theorem OwL.cutTo {w w' : World} {B g c i : Nat} {cur cur' : Array Value} {W : List Cl} (hB : B ≤ g) (hi : i ≤ W.length) (hn : W.length ≤ c) (hm : c ≤ maxLen) (hcs : cur.size = c * 5) (ht : cur.toList.take (W.length * 5) = flat5 W) (hz : cur'.size = cur.size) (hk : cur'.toList.take (i * 5) = cur.toList.take (i * 5)) (hT : Turned g cur' w w') :
  OwL w' B (.slice (some ⟨g, 0, none⟩) i c) (W.take i) := by
 have hl : (W.take i).length = i := by rw [List.length_take]; omega
 refine ⟨by rw [flat5_len, hl], .inr ⟨g, c, cur', by rw [hl], hB, hT.i, by rw [hl]; omega, hm, by rw [hz, hcs], ?_⟩⟩
 rw [hl, hk, flat5_take, ← ht, List.take_take]
 congr 1
 omega
theorem Bds.kept {b1 b2 g : Nat} {fr hi : ByteArray} {w w' : World} {cur cur' : Array Value} (h : Bds b1 b2 fr hi w) (hg : w.heap[g]? = some (.cells cur 47 (0, 0))) (hT : Turned g cur' w w') : Bds b1 b2 fr hi w' := by
 refine ⟨(hT.o b1 fun e => ?_).trans h.r1, (hT.o b2 fun e => ?_).trans h.r2⟩
 ·have := h.r1
  rw [e, hg] at this
  injection this with this
  injection this with _ q _
  exact absurd q (by decide)
 ·have := h.r2
  rw [e, hg] at this
  injection this with this
  injection this with _ q _
  exact absurd q (by decide)
theorem delf_any (v : Value) (V : List Cl) (b1 b2 B : Nat) (fr hi : ByteArray) (w : World) (ho : OwL w B v V) (hB : B ≤ w.heap.size) (hb : Bds b1 b2 fr hi w) (hl : V.length ≤ 1000000) :
  Calls Tryz.prog 74 #[v, .func (.func 76) #[] #[.pointer (some ⟨b1, 0, none⟩), .pointer (some ⟨b2, 0, none⟩)]] w fun e w' => (∃ x, e = .returned x ∧ OwL w' B x (V.filter (inS fr hi))) ∧ Below B w w' := by
 have hrd := ho.rd (S := []) (fun _ h => by cases h)
 have hix := idxf_any v V b1 b2 fr hi w hrd hb hl
 obtain ⟨A, c, rfl, hc, hm⟩ := hrd.shape
 unfold maxLen at hm
 have HO := Lib.hid ho
 have HBD := Lib.hid hb
 have HIX := Lib.hid hix
 clear ho hb hrd hix
 go_enter Tryz.func74, Tryz.ntmps74
 go_wp2_with fail
 refine HIX.out.mono ?_
 rintro e w1 ⟨⟨k, f0, hk, hout, hpre, rfl⟩ | ⟨hno, rfl⟩, hb1⟩
 ·obtain ⟨hkl, -⟩ := List.getElem?_eq_some_iff.1 hk
  have HD0 := Lib.hid (DelS.start hk hout hpre)
  have HO1 := Lib.hid (HO.out.below hb1)
  have HBD1 := Lib.hid (HBD.out.up hb1)
  have HB1 := Lib.hid (hb1.mono hB)
  have HSZ := Lib.hid (Nat.le_trans hB hb1.size)
  obtain ⟨g, cp, cur0, hgv, hBg, -, -, -, -, -⟩ := HO1.out.open_ (by omega)
  injection hgv with e1 e2 e3
  subst e1 e3
  have hk0 : ¬ (k : Int) = -1 := by omega
  have hkm : (k : Int) ≤ 1000000 := by omega
  have hbk : ((k : Int) == -1) = false := by
   rw [beq_eq_false_iff_ne]
   exact hk0
  clear hk hout hpre hb1 e2 HIX HO HBD
  go_wp2_with fail
  go_loopw [5, 6] (fun iv jv wr => ∃ (i j : Nat) (W : List Cl), iv = .int .i64 (i : Int) ∧ jv = .int .i64 (j : Int) ∧ Hid (DelS fr hi V W i j) ∧ Hid (OwL wr B (.slice (some ⟨g, 0, none⟩) V.length c) W) ∧ Hid (Bds b1 b2 fr hi wr) ∧ Hid (Below B w wr) ∧ Hid (B ≤ wr.heap.size)) (fun _ jv _ => V.length - (intOf jv).toNat)
  case atStart => exact ⟨k, k + 1, V, rfl, by go_num, HD0, HO1, HBD1, HB1, HSZ⟩
  case round =>
   obtain ⟨i, j, W, rfl, rfl, HD, HOW, HBDR, HBR, HSR⟩ := hrel
   obtain ⟨wo, hwo⟩ : ∃ wo, wo = wr := ⟨_, rfl⟩
   subst hwo
   have hij := HD.out.ij
   have hjl := HD.out.jl
   obtain ⟨g', cap', cur, hgv, hBg', hcur, hcp', hcm', hcs, htk⟩ := HOW.out.open_ (by have := HD.out.len; omega)
   injection hgv with e1 e2 e3
   obtain rfl : g = g' := by injection e1 with e1; injection e1
   subst e3
   have HCUR := Lib.hid hcur
   have HCS := Lib.hid hcs
   have HTK := Lib.hid htk
   have HWL := Lib.hid e2
   have HGL := Lib.hid (Array.getElem?_eq_some_iff.1 hcur).1
   have hh0 : (0 : Int) ≤ (i : Int) := by omega
   have hh1 : (i : Int) < (V.length : Int) := by omega
   clear e2 hcur hcs htk hcp' hcm'
   by_cases hlt : j < V.length
   ·have hh3 : (0 : Int) ≤ (j : Int) := by omega
    have hh4 : (j : Int) < (V.length : Int) := by omega
    have hfk : V[j]? = some (V[j]'hlt) := List.getElem?_eq_getElem _
    generalize V[j]'hlt = f at hfk
    obtain ⟨c0, c1, c2, c3, c4⟩ := ((HOW.out.rd (S := []) (fun _ h => by cases h)).at_ (HD.out.at_.trans hfk)).1
    rw [Nat.zero_add] at c0 c1 c2 c3 c4
    have HFK := Lib.hid hfk
    have HSC := Lib.hid (fun z hz => scanC_any f b1 b2 fr hi z (HBDR.out.up hz))
    clear hfk
    go_wp2_with (refine allocC rfl rfl ?_)
    constructor
    intro w3 hI3 hb3 hz3
    go_wp2_with (refine storeC (c := f) rfl (.tmp 7) (.tmp 25) rfl rfl rfl hI3 ?_)
    constructor
    intro w4 hs4
    have HI4 := Lib.hid hs4.i
    have HB4 := Lib.hid (hs4.bel hb3 (Nat.le_refl _))
    clear hI3 hb3 hz3 hs4 c0 c1 c2 c3 c4
    go_wp2_with (refine loadC rfl (.tmp 7) rfl rfl HI4.out ?_)
    refine (HSC.out _ HB4.out).mono ?_
    rintro e w5 ⟨rfl, hb5⟩
    have HI5 := Lib.hid (HI4.out.up hb5)
    have HB5 := Lib.hid (bwstep HB4.out hb5)
    have HGN : Hid (wo.heap.size ≠ g) := Lib.hid (by have := HGL.out; omega)
    clear hb5 HSC
    obtain ⟨q, hq⟩ : ∃ q, q = outS fr hi f := ⟨_, rfl⟩
    rw [← hq]
    have HQ := Lib.hid hq
    clear hq
    cases q
    ·have HCU5 := Lib.hid ((HB5.out.block g HGL.out).trans HCUR.out)
     have HFT : Hid (i * 5 + [f].length * 5 ≤ cur.size) := Lib.hid (by have := HCS.out; have := HWL.out; simp; omega)
     go_wp2_with (first | (refine loadC rfl (.tmp 7) rfl rfl HI5.out ?_) | (refine wpList_storeAt (c := f) rfl (.tmp 33) (.tmp 32) rfl (by first | rfl | (simp [Act.eval]; done)) (by first | rfl | (simp [Act.eval]; done)) HCU5.out HFT.out ?_))
     constructor
     intro w6 hT6
     have HOW6 : Hid (OwL w6 B (.slice (some ⟨g, 0, none⟩) V.length c) (W.set i f)) := Lib.hid (by
      have e2 := HWL.out
      have h6 := OwL.stored (B := B) hBg (k := i) (by omega) (by omega) (by unfold maxLen; omega) HCS.out HTK.out hT6
      rwa [← e2] at h6)
     have HBD6 := Lib.hid ((HBDR.out.up HB5.out).kept HCU5.out hT6)
     have HB6 : Hid (Below B w w6) := Lib.hid ((HBR.out.trans (HB5.out.mono HSR.out)).trans (hT6.b.mono hBg))
     have HS6 : Hid (B ≤ w6.heap.size) := Lib.hid (by rw [hT6.z]; exact Nat.le_trans HSR.out HB5.out.size)
     have HD6 := Lib.hid (HD.out.keep HFK.out HQ.out.symm)
     clear hT6
     go_wp2_with fail
     go_roundw
     case rel => exact ⟨i + 1, j + 1, W.set i f, by go_num, by go_num, HD6, HOW6, HBD6, HB6, HS6⟩
     case measure => simp [intOf]; omega
    ·have HD6 := Lib.hid (HD.out.skip HFK.out HQ.out.symm)
     go_wp2_with fail
     go_roundw
     case rel => exact ⟨i, j + 1, W, rfl, by go_num, HD6, Lib.hid (HOW.out.below HB5.out), Lib.hid (HBDR.out.up HB5.out), Lib.hid (HBR.out.trans (HB5.out.mono HSR.out)), Lib.hid (Nat.le_trans HSR.out HB5.out.size)⟩
     case measure => simp [intOf]; omega
   ·obtain rfl : j = V.length := by omega
    have hh5 : (i : Int) ≤ (V.length : Int) := by omega
    have hh6 : (i : Int) ≤ (c : Int) := by omega
    have hh7 : ¬ c = i := by omega
    have HFT : Hid (i * 5 + (V.length - i) * 5 ≤ cur.size) := Lib.hid (by have := HCS.out; omega)
    have hpos : 0 < V.length - i := by omega
    go_wp2_with (refine wpList_clearL rfl (.tmp 38) rfl rfl hpos HCUR.out HFT.out ?_)
    constructor
    intro w5 cur5 hT5 hz5 hk5
    have HE : Hid (OwL w5 B (.slice (some ⟨g, 0, none⟩) i c) (V.filter (inS fr hi))) := Lib.hid (by
     have e2 := HWL.out
     have h6 := OwL.cutTo (B := B) hBg (i := i) (W := W) (by omega) (by omega) (by unfold maxLen; omega) HCS.out HTK.out hz5 hk5 hT5
     have h7 := HD.out.tk
     rw [List.take_length] at h7
     rwa [h7] at h6)
    have HB5 : Hid (Below B w w5) := Lib.hid (HBR.out.trans (hT5.b.mono hBg))
    clear hT5 hz5 hk5
    go_wp2_with fail
    go_ret
    exact ⟨⟨_, rfl, HE.out⟩, HB5.out⟩
 ·have HE : Hid (V.filter (inS fr hi) = V) := Lib.hid (List.filter_eq_self.2 fun d hd => by rw [inS_out, hno d hd]; rfl)
  go_wp2_with fail
  go_ret
  exact ⟨⟨_, rfl, by rw [HE.out]; exact HO.out.below hb1⟩, hb1.mono hB⟩
end Go.Proofs.YtcpkhhbbjimdaaaGreatDoor.Ce
namespace Go.Proofs.YtcpkhhbbjimdaaaGreatDoor.Ce
open Go.RowKit
variable {H : Hos}
theorem cells_app {wz w4 : World} {B B2 B3 : Nat} {t7 v4 x2 x3 : Value} {vs : List Value} {L : List Cl} {F : List (List Cl)} (hO : Ow wz B 27 t7 [x2]) (hx : OwL wz B2 x2 L) (hB : OwB wz B3 x3 vs F) (ho4 : Ow w4 B 27 v4 ([x2] ++ vs)) (hg : wz.grownBy w4 t7.ownBlock) : RdB w4 v4 (L :: F) := by
 refine ⟨[x2] ++ vs, ho4.rd, by simp [hB.len], fun j u M hu hM => ?_⟩
 match j, hu, hM with
 | 0, hu, hM =>
  obtain rfl : x2 = u := by simpa using hu
  obtain rfl : L = M := by simpa using hM
  exact (hx.keptR hg (ow_apart (hO.mono (Nat.zero_le _)) (hx.mono (Nat.zero_le _)))).rd (fun _ h => by cases h)
 | j + 1, hu, hM =>
  have hr := hB.row j u M (by simpa using hu) (by simpa using hM)
  exact (hr.keptR hg (ow_apart (hO.mono (Nat.zero_le _)) (hr.mono (Nat.zero_le _)))).rd (fun _ h => by cases h)
theorem OwB.rdSl {w : World} {B : Nat} {v : Value} {vs : List Value} {LL : List (List Cl)} (h : OwB w B v vs LL) : One vs := fun u hu => by
 obtain ⟨j, hj⟩ := List.getElem?_of_mem hu
 have hl := (List.getElem?_eq_some_iff.1 hj).1
 have hM : LL[j]? = some (LL[j]'(by rw [← h.len]; exact hl)) := List.getElem?_eq_getElem _
 exact (h.row j u _ hj hM).oneV
theorem tcellsT_any {w : World} {S : List Nat} {b : Nat} {s : Sf} {L : List Cl} {X : List (List (List Cl))} {n : Int} {v lv : Value} (h : TrS H w S b s L X n v lv) (hl : Lim L X) :
  Calls Tryz.prog 29 #[.pointer (some ⟨b, 0, none⟩)] w fun e w' => (∃ x, e = .returned x ∧ OwL w' w.heap.size x (allP (L :: X.flatten))) ∧ Below w.heap.size w w' := by
 have hfl := hl.flat
 have hfe := flat_le (LL := L :: X.flatten) (m := 1000) fun C hC => by
  rcases List.mem_cons.1 hC with rfl | hC
  ·exact hl.ll
  ·exact hl.lx C hC
 have hnx := hl.nx
 have HCE : Hid (∀ W, TrS H W S b s L X n v lv → Calls Tryz.prog 45 #[.pointer (some ⟨b, 3, none⟩)] W fun e w' => (∃ x, e = .returned x ∧ OwL w' W.heap.size x L) ∧ Below W.heap.size W w') := Lib.hid fun W hW => mcellsT_any b v L W hW.m (Nat.le_trans hl.ll (by omega))
 have HLS : Hid (∀ W, TrS H W S b s L X n v lv → Calls Tryz.prog 46 #[lv] W fun e w' => (∃ x vs, e = .returned x ∧ OwB w' W.heap.size x vs X.flatten) ∧ Below W.heap.size W w') := Lib.hid fun W hW => by
  obtain ⟨us, h1, h2⟩ := hW.rdv
  exact lists_any lv X W ⟨us, h1, h2.keep (Kp.refl [] W) (by simp) (by simp)⟩ (by omega) (fun T hT => Nat.le_trans (hl.tx T hT) (by omega)) (by omega) (fun C hC => Nat.le_trans (hl.lx C hC) (by omega))
 have HAL : Hid (∀ W x, RdB W x (L :: X.flatten) → Calls Tryz.prog 44 #[x] W fun e w' => (∃ x, e = .returned x ∧ OwL w' W.heap.size x (allP (L :: X.flatten))) ∧ Below W.heap.size W w') := Lib.hid fun W x hx => by
  refine all_any x (L :: X.flatten) W hx hl.all ?_ (by rw [List.length_cons]; omega)
  rw [List.length_cons] at hfe
  have : (X.flatten.length + 1) * 1000 ≤ 19 * 1000 := Nat.mul_le_mul_right _ (by omega)
  omega
 have HFL : Hid (X.flatten.length ≤ 18) := Lib.hid hfl
 generalize allP (L :: X.flatten) = C at *
 generalize X.flatten = F at *
 have HW := Lib.hid h
 have c5 := h.c5
 obtain ⟨Alv, clv, rfl, -, -⟩ := h.rdv.shape
 have HC : Hid (∀ z, Below w.heap.size w z → z.cell? ⟨b, 5, none⟩ = some (.slice Alv X.length clv)) := Lib.hid fun z hz => (HW.out.up hz).c5
 have hd := (Below.refl w.heap.size w).drew
 have HT := Lib.hid (HC.out _ hd)
 clear h hl hfl hfe hnx
 go_enter Tryz.func29, Tryz.ntmps29
 go_wp2_with fail
 go_region_held3 (fun z => z.cell? ⟨b, 5, none⟩ = some (.slice Alv X.length clv)) (first | with_reducible exact HT.out | with_reducible exact HC.out _ hB2 | with_reducible exact HC.out _ hA2 | with_reducible exact HC.out _ hB3 | with_reducible exact HC.out _ hZ | with_reducible exact HC.out _ hB4 | with_reducible exact HC.out _ hB5)
  (first
   | (go_at_call 45; (with_reducible refine (HCE.out _ (HW.out.up hd)).mono ?_); rintro e w2 ⟨⟨x2, rfl, hx2⟩, hb2⟩; obtain ⟨A2, c2, rfl, -, -⟩ := (hx2.rd (S := []) (fun _ h => by cases h)).shape; have hB2 := bwstep hd hb2; have hA2 := bwalloc hB2 (.cells #[.slice A2 L.length c2] 27); have hs2 := hd.size; clear hb2)
   | (go_at_call 46; (with_reducible refine (HLS.out (w2.alloc (.cells #[.slice A2 L.length c2] 27)) (HW.out.up hA2)).mono ?_); rintro e w3 ⟨⟨x3, vs3, rfl, hx3⟩, hb3⟩; have hB3 := bwstep hA2 hb3; have hZ := hB3; have hOZ : Ow w3 w2.heap.size 27 (.slice (some ⟨w2.heap.size, 0, none⟩) 1 1) [.slice A2 L.length c2] := (Ow.new (e := 27) (B := w2.heap.size) w2 #[.slice A2 L.length c2] rfl (by simp [maxLen]) rfl (Nat.le_refl _)).below hb3; have hXZ := hx2.below (bwstep (bwalloc (bwrefl w2) (.cells #[.slice A2 L.length c2] 27)) hb3); have hBZ := hx3; have hsZ : w2.heap.size ≤ w3.heap.size := Nat.le_trans (bwalloc (bwrefl w2) (.cells #[.slice A2 L.length c2] 27)).size hb3.size; have hge : w.heap.size ≤ w2.heap.size := hB2.size; obtain ⟨A3, c3, rfl, -, -⟩ := hx3.out.rd.shape; have HL3 := Lib.hid hx3.len; clear hb3 hx2 hx3)
   | (go_at_call 46; (with_reducible refine (HLS.out w2 (HW.out.up hB2)).mono ?_); rintro e w3 ⟨⟨x3, vs3, rfl, hx3⟩, hb3⟩; have hB3 := bwstep hB2 hb3; have hZ := bwalloc hB3 (.cells #[.slice A2 L.length c2] 27); have hOZ : Ow (w3.alloc (.cells #[.slice A2 L.length c2] 27)) w2.heap.size 27 (.slice (some ⟨w3.heap.size, 0, none⟩) 1 1) [.slice A2 L.length c2] := Ow.new (e := 27) (B := w2.heap.size) w3 #[.slice A2 L.length c2] rfl (by simp [maxLen]) rfl hb3.size; have hXZ := (hx2.below hb3).below (bwalloc (bwrefl w3) (.cells #[.slice A2 L.length c2] 27)); have hBZ := hx3.below (bwalloc (bwrefl w3) (.cells #[.slice A2 L.length c2] 27)); have hsZ : w2.heap.size ≤ (w3.alloc (.cells #[.slice A2 L.length c2] 27)).heap.size := Nat.le_trans hb3.size (bwalloc (bwrefl w3) (.cells #[.slice A2 L.length c2] 27)).size; have hge : w.heap.size ≤ w2.heap.size := hB2.size; obtain ⟨A3, c3, rfl, -, -⟩ := hx3.out.rd.shape; have HL3 := Lib.hid hx3.len; clear hb3 hx2 hx3)
   | (refine step_appV rowsC_T rfl rfl (.tmp 7) (.tmp 12) rfl (by simp [Act.eval]) hOZ (by simp [Act.eval]) hBZ.out.rd hBZ.rdSl (by have h8 := HFL.out; have h9 := HL3.out; simp [maxLen]; omega) (by have h8 := HFL.out; have h9 := HL3.out; simp; omega) hsZ ?_; intro v4 w4 ho4 hg4 _; have hB4 := hZ.grown hg4 hZ.size (fun k hk => Nat.le_trans hge (hOZ.lt k hk).1); have HRB := Lib.hid (cells_app hOZ hXZ hBZ ho4 hg4); obtain ⟨A4, c4, hy4, -, -⟩ := ho4.rd.shape; (have hln : ([Value.slice A2 L.length c2] ++ vs3).length = vs3.length + 1 := (by simp)); rw [hln] at hy4; subst hy4; clear ho4 hg4 hln)
   | (go_at_call 44; (with_reducible refine (HAL.out _ _ HRB.out).mono ?_); rintro e w5 ⟨⟨x5, rfl, hx5⟩, hb5⟩; have hB5 := bwstep hB4 hb5; have hs5 := hB4.size; clear hb5))
 all_goals
  go_wp2_with fail
  go_ret
  exact ⟨⟨_, rfl, hx5.mono hs5⟩, hB5⟩
end Go.Proofs.YtcpkhhbbjimdaaaGreatDoor.Ce
namespace Go.Proofs.YtcpkhhbbjimdaaaGreatDoor.Ce
open Go.RowKit
variable {H : Hos}
theorem heap_oldU {w : World} {o : Obj} {k : Nat} {x : Obj} (h : w.heap[k]? = some x) : (w.alloc o).heap[k]? = some x := ((bwalloc (bwrefl w) o).block k (Array.getElem?_eq_some_iff.1 h).1).trans h
theorem heap_twoU (w : World) (o p : Obj) : ((w.alloc o).alloc p).heap[w.heap.size + 1]? = some p := by
 have h := heap_alloc_new (w.alloc o) p
 have e : (w.alloc o).heap.size = w.heap.size + 1 := by simp
 rwa [e] at h
theorem tscan_any {w : World} {S : List Nat} {b : Nat} {s : Sf} {L : List Cl} {X : List (List (List Cl))} {n : Int} {v lv : Value} (fr hi : ByteArray) (at_ : Int) (h : TrS H w S b s L X n v lv) (hl : Lim L X) (hc : (allP (L :: X.flatten)).length ≤ 1000000) :
  Calls Tryz.prog 55 #[.pointer (some ⟨b, 0, none⟩), .string fr, .string hi, .int .i64 at_] w fun e w' => (∃ x, e = .returned x ∧ OwL w' w.heap.size x (someP fr hi at_ (allP (L :: X.flatten)))) ∧ Below w.heap.size w w' := by
 have hb0 := bwalloc (bwalloc (bwrefl w) (.cells #[.string fr] 9)) (.cells #[.string hi] 9)
 have HBD : Hid (Bds w.heap.size (w.heap.size + 1) fr hi ((w.alloc (.cells #[.string fr] 9)).alloc (.cells #[.string hi] 9))) := Lib.hid ⟨heap_oldU (heap_alloc_new _ _), heap_twoU w _ _⟩
 have HCE := Lib.hid (tcellsT_any (h.up hb0) hl)
 have HSA := Lib.hid (srt_all (L :: X.flatten))
 have HB0 := Lib.hid hb0
 unfold someP
 generalize allP (L :: X.flatten) = C at *
 have hmf : ∀ (fn : Fn) (first cap : Array Value) (w : World), (Instr.makeFunc fn first cap).run Tryz.prog w = .ok (.func fn first cap) w := fun _ _ _ _ => rfl
 clear h hl hb0
 go_enter Tryz.func55, Tryz.ntmps55
 go_wp2_with fail
 refine HCE.out.mono ?_
 rintro e w2 ⟨⟨x2, rfl, hx2⟩, hb2⟩
 have HX2 := Lib.hid (hx2.rd (S := []) (fun _ h => by cases h))
 have HBD2 := Lib.hid (HBD.out.up hb2)
 have HB2 := Lib.hid (bwstep HB0.out hb2)
 clear hx2 hb2 HCE HBD HB0
 go_wp2_with fail
 refine (vis_any x2 C at_ _ HX2.out HSA.out (by omega)).mono ?_
 rintro e w3 ⟨⟨x3, rfl, hx3⟩, hb3⟩
 have hvl : (visP at_ C).length ≤ 1000000 := Nat.le_trans (List.length_filter_le _ _) hc
 have HX3 := Lib.hid hx3
 have HBD3 := Lib.hid (HBD2.out.up hb3)
 have HB3 := Lib.hid (bwstep HB2.out hb3)
 have HS3 := Lib.hid hb3.size
 clear hx3 hb3
 go_wp2_with fail
 refine (delf_any x3 (visP at_ C) _ _ w2.heap.size fr hi _ HX3.out HS3.out HBD3.out hvl).mono ?_
 rintro e w4 ⟨⟨x4, rfl, hx4⟩, hb4⟩
 go_wp2_with fail
 go_ret
 exact ⟨⟨_, rfl, hx4.mono HB2.out.size⟩, HB3.out.trans (hb4.mono HB2.out.size)⟩
end Go.Proofs.YtcpkhhbbjimdaaaGreatDoor.Ce
