/- The contract of the reference's Key of layer 12. The contract of the reference's Build of layer 12. The contracts of a table's small parts: a key's text, a block's part of the footer, the filter. -/
import Derived.Test.YtgcbmdolbmmljaaGreatTabA
import Derived.Test.YtgcbmdolbmmljaaGreatRef1
import Derived.Deep.RegionHeld3
import Derived.Test.YtgcbmdolbmmljaaGreatBkR
import Derived.Test.YtgcbmdolbmmljaaGreatBlmA
import Derived.Test.YtgcbmdolbmmljaaGreatWir
import Derived.Test.YtgcbmdolbmmljaaGreatCsA
namespace Go.Proofs.YtgcbmdolbmmljaaGreat.Ce
open Go.RowKit

theorem ba_app (l m : List UInt8) : (⟨l.toArray⟩ : ByteArray) ++ (⟨m.toArray⟩ : ByteArray) = ⟨(l ++ m).toArray⟩ := by
  apply ByteArray.ext
  simp
def keyS (row col : ByteArray) : ByteArray := ⟨(keyT row col).toArray⟩
theorem ba_size (l : List UInt8) : (⟨l.toArray⟩ : ByteArray).size = l.length := by simp [ByteArray.size]
end Go.Proofs.YtgcbmdolbmmljaaGreat.Ce

namespace Go.Proofs.YtgcbmdolbmmljaaGreat.Ce
open Go.RowKit Frm

theorem entries_app : ∀ (A C : List (List Cl)) (a : Nat), entries (A ++ C) a = entries A a ++ entries C (a + (flatB A).length)
  | [], C, a => by simp [entries, flatB]
  | M :: A, C, a => by
    rw [List.cons_append, entries, entries, entries_app A C, flatB, List.length_append, List.append_assoc, List.append_assoc, Nat.add_assoc]
theorem entries_snoc {LL : List (List Cl)} {k : Nat} {M : List Cl} (h : LL[k]? = some M) : entries (LL.take (k + 1)) 0 = (entries (LL.take k) 0 ++ cellB (keyC (hd M))) ++ numB (flatB (LL.take k)).length := by
  obtain ⟨hl, rfl⟩ := List.getElem?_eq_some_iff.1 h
  rw [List.take_succ_eq_append_getElem hl, entries_app, entries, entries, List.append_nil, Nat.zero_add, List.append_assoc]
theorem entries_take_le (LL : List (List Cl)) (k : Nat) : (entries (LL.take k) 0).length ≤ (entries LL 0).length := by
  have := congrArg List.length (entries_app (LL.take k) (LL.drop k) 0)
  rw [List.take_append_drop, List.length_append] at this
  omega
theorem flatB_le : ∀ {LL : List (List Cl)}, (∀ M ∈ LL, (recB M).length ≤ 65535) → (flatB LL).length ≤ 65547 * LL.length
  | [], _ => by simp [flatB]
  | M :: LL, h => by
    have ih := flatB_le (LL := LL) fun A hA => h A (List.mem_cons_of_mem _ hA)
    have h1 := h M (by simp)
    have h2 : (blkB M).length = 12 + (recB M).length := frm_len _
    rw [flatB, List.length_append, List.length_cons]
    omega
theorem hd_at {M : List Cl} (h : M ≠ []) : M[0]? = some (hd M) := by
  cases M with
  | nil => exact absurd rfl h
  | cons a A => rfl
/-- append of whatever one-cell elements, as one step of a region that draws its order -/
theorem step_appE {P : Program} {ops : Array Oper} {o : Oper} {a : Act} {w : World} {B e t bytes D : Nat} {z v x : Value} {xs ys : List Value} {K : Act → World → Prop} {Q : Exit → Act → World → Prop} {E : Prop} (T : ET P t e z bytes) (hz : z.cells.size = 1) (hgd : o.guard = none) (s y : Operand)
    (ho : o.op = .call { callee := .builtin .append, args := #[s, y], argTypes := #[t, t] })
    (hs : a.eval s = v) (hown : Ow w B e v xs) (hy : a.eval y = x) (hr : Rd w D x ys) (h1 : One ys)
    (hlen : xs.length + ys.length ≤ maxLen) (hby : (xs.length + ys.length) * bytes ≤ 140737488355328) (hB : B ≤ w.heap.size)
    (hK : ∀ v' w', Ow w' B e v' (xs ++ ys) → w.grownBy w' v.ownBlock → (v'.ownBlock = v.ownBlock ∨ v'.ownBlock = some w.heap.size) → K (a.put o.dst v') w') :
    if Region.wanted o (yielded ops a.tmps) = true then Oper.wp P o a w K Q else E := by
  have hw : Region.wanted o (yielded ops a.tmps) = true := by simp [Region.wanted, hgd]
  rw [if_pos hw]
  obtain ⟨v', w', hrun, h2, h3, h4⟩ := run_app (P := P) T hz o.type hown hr h1 hlen hby hB
  unfold Oper.wp
  simp [execOp, ho, resolve, invoke, builtin, hs, hy, hrun, Result.andThen]
  exact hK v' w' h2 h3 h4
/-- the keys' texts -/
def keysS (L : List Cl) : List ByteArray := L.map fun c => keyS c.row c.col
theorem keysS_kl (L : List Cl) : Blm.kl (keysS L) = L.map keyOf := by
  unfold Blm.kl keysS
  rw [List.map_map]
  rfl
theorem keysS_snoc {L : List Cl} {k : Nat} {c : Cl} (h : L[k]? = some c) : keysS (L.take (k + 1)) = keysS (L.take k) ++ [keyS c.row c.col] := by
  obtain ⟨hl, rfl⟩ := List.getElem?_eq_some_iff.1 h
  unfold keysS
  rw [List.take_succ_eq_append_getElem hl, List.map_append]
  rfl

end Go.Proofs.YtgcbmdolbmmljaaGreat.Ce

namespace Go.Proofs.YtgcbmdolbmmljaaGreat.Ce
open Go.RowKit Frm

set_option maxHeartbeats 1000000 in
set_option maxRecDepth 100000 in
theorem ttext_any (row col : ByteArray) (w : World) (hr : row.size ≤ 4294967295) (hc : col.size ≤ 4294967295) :
    Calls Tryz.prog 100 #[.string row, .string col] w fun e w' => e = .returned (.string (keyS row col)) ∧ Below w.heap.size w w' := by
  obtain ⟨sr, hsr⟩ : ∃ s : ByteArray, s = ⟨(textB row).toArray⟩ := ⟨_, rfl⟩
  obtain ⟨sc, hsc⟩ : ∃ s : ByteArray, s = ⟨(textB col).toArray⟩ := ⟨_, rfl⟩
  have hsum : ¬ (sr.size + sc.size > 9223372036854775807) := by rw [hsr, hsc, ba_size, ba_size, textB_len, textB_len]; omega
  have hsum2 : sr.size + sc.size ≤ 9223372036854775807 := by omega
  have HK : Hid (sr ++ sc = keyS row col) := Lib.hid (by rw [hsr, hsc, ba_app]; rfl)
  have US : Hid (∀ (w : World) (D : Nat) (v : Value), Rd w D v ((textB row).map bv) → (convert 51 9 v).run Tryz.prog w = .ok (.string sr) w) := Lib.hid fun w D v h => by rw [hsr]; exact run_str Tryz.underlying51 Tryz.underlying5 Tryz.underlying9 h
  have UC : Hid (∀ (w : World) (D : Nat) (v : Value), Rd w D v ((textB col).map bv) → (convert 51 9 v).run Tryz.prog w = .ok (.string sc) w) := Lib.hid fun w D v h => by rw [hsc]; exact run_str Tryz.underlying51 Tryz.underlying5 Tryz.underlying9 h
  clear hsr hsc
  have HT : Hid (Below w.heap.size w w.drew) := Lib.hid (Below.refl _ _).drew
  have HU : Hid (∀ x y : World, Below w.heap.size w x → Below x.heap.size x y → Below w.heap.size w y) := Lib.hid fun x y h k => bwstep h k
  go_enter Tryz.func100, Tryz.ntmps100
  go_wp2_with fail
  go_region_law
    (first
      | (go_simp; go_at_call 78; with_reducible refine (text_ok row _ hr).mono ?_; rintro e w1 ⟨v1, rfl, ho1, hb1⟩; have c1 := US.out _ _ _ ho1.rd)
      | (go_simp; go_at_call 78; with_reducible refine (text_ok col _ hc).mono ?_; rintro e w2 ⟨v2, rfl, ho2, hb2⟩; have c2 := UC.out _ _ _ ho2.rd; have c1' := US.out _ _ _ (ho1.below hb2).rd))
  all_goals
    go_wp2_with fail
    go_ret
    exact ⟨ret1 (congrArg Value.string HK.out), HU.out _ _ (HU.out _ _ HT.out hb1) hb2⟩
set_option maxHeartbeats 1000000 in
set_option maxRecDepth 100000 in
theorem tentry_ok (f : Cl) (n : Nat) (w : World) (hf : f.ok) (hn : n ≤ 4294967295) :
    Calls Tryz.prog 76 #[f.v, .int .i64 (n : Int)] w fun e w' => (∃ x, e = .returned x ∧ Ow w' w.heap.size 5 x ((cellB (keyC f) ++ numB n).map bv)) ∧ Below w.heap.size w w' := by
  have hpu := fun w => put_ok (keyC f) w (keyC_ok hf)
  have hkl := cellB_le (keyC_ok hf)
  go_enter Tryz.func76, Tryz.ntmps76
  go_wp2_with (refine boxC rfl (.tmp 0) f rfl rfl ?_)
  constructor
  intro w1 hI1 hb1 hz1
  have c0 := hI1.c0
  have c1 := hI1.c1
  have c2 := hI1.c2
  clear hz1
  go_wp2_with (refine allocC rfl rfl ?_)
  constructor
  intro w2 hI2 hb2 hz2
  go_wp2_with (refine storeC (c := keyC f) rfl (.tmp 5) (.tmp 12) rfl rfl rfl hI2 ?_)
  constructor
  intro w3 hs3
  have hI3 := hs3.i
  have HB3 := Lib.hid (bwstep hb1 (hs3.bel hb2 (Nat.le_refl _)))
  clear hI1 hb1 hI2 hb2 hs3 c0 c1 c2 hz2
  go_wp2_with (refine loadC rfl (.tmp 5) rfl rfl hI3 ?_)
  refine (hpu _).mono ?_
  rintro e w4 ⟨⟨x4, rfl, hx4⟩, hb4⟩
  have HB4 := Lib.hid (bwstep HB3.out hb4)
  have HX4 := Lib.hid (hx4.mono HB3.out.size)
  clear hb4 hx4 hI3
  go_wp2_with fail
  refine (num_ok n _ hn).mono ?_
  rintro e w5 ⟨q5, rfl, hq5, hb5⟩
  have hx5 := HX4.out.below hb5
  have hr5 := hq5.rd
  have hB5 := bwstep HB4.out hb5
  have hz5 : (cellB (keyC f)).length + (numB n).length ≤ 140737488355328 := by rw [numB_len]; omega
  have hs5 := hB5.size
  clear hq5 hb5 HX4
  go_wp2_with (at_builtin; refine wpList_appB bytesT rfl (.tmp 14) (.tmp 16) rfl rfl hx5 rfl hr5 hz5 hs5 ?_; intro v6 w6 ho6 hg6 h6; have HO6 := Lib.hid ho6; have HB6 := Lib.hid (hB5.grown hg6 hs5 hx5.ge); clear ho6 hg6 h6)
  go_ret
  exact ⟨⟨_, rfl, HO6.out⟩, HB6.out⟩
set_option maxHeartbeats 4000000 in
set_option maxRecDepth 100000 in
theorem tfilter_ok (v : Value) (L : List Cl) (w : World) (hv : RdL w [] v L) (hok : ∀ c ∈ L, c.ok) (hl : L.length ≤ 1000000) :
    Calls Tryz.prog 79 #[v] w fun e w' => (∃ x, e = .returned x ∧ Ow w' w.heap.size 5 x ((filt L).map bv)) ∧ Below w.heap.size w w' := by
  obtain ⟨A, c, rfl, hc, hm⟩ := hv.shape
  unfold maxLen at hm
  have HV := Lib.hid hv
  have HOK := Lib.hid hok
  clear hv hok
  go_enter Tryz.func79, Tryz.ntmps79
  go_wp2_with fail
  go_loopw [3, 8] (fun v i wr => ∃ k : Nat, k ≤ L.length ∧ i = .int .i64 (k : Int) ∧ Ow wr w.heap.size 9 v ((keysS (L.take k)).map sv) ∧ Below w.heap.size w wr) (fun _ i _ => L.length - (intOf i).toNat)
  case atStart => exact ⟨0, Nat.zero_le _, rfl, by simpa [keysS] using Ow.nil _ _ _, Below.refl _ _⟩
  case round =>
    obtain ⟨k, hk, rfl, ho, hb⟩ := hrel
    by_cases hlt : k < L.length
    · obtain ⟨b, off, rfl, -⟩ := HV.out.open_ (by omega)
      have hh3 : (0 : Int) ≤ (k : Int) := by omega
      have hh4 : (k : Int) < (L.length : Int) := by omega
      have hfk : L[k]? = some (L[k]'hlt) := List.getElem?_eq_getElem _
      generalize L[k]'hlt = f at hfk
      obtain ⟨h5, hbl⟩ := (HV.out.bel hb).at_ hfk
      obtain ⟨c0, c1, c2, c3, c4⟩ := h5
      have HKS := Lib.hid (keysS_snoc hfk)
      have hokf := HOK.out f (List.mem_of_getElem? hfk)
      have htk := fun w => ttext_any f.row f.col w (by have := hokf.r2; omega) (by have := hokf.c2; omega)
      have hsz2 : (keysS (L.take k)).length + 1 ≤ 2000000 := by simp [keysS]; omega
      have hsz3 : ((keysS (L.take k)).map sv).length + ([keyS f.row f.col].map sv).length ≤ maxLen := by simp [maxLen]; omega
      have hsz4 : (((keysS (L.take k)).map sv).length + ([keyS f.row f.col].map sv).length) * 16 ≤ 140737488355328 := by simp; omega
      have HO := Lib.hid ho
      have HBW := Lib.hid hb
      have HBS := hb.size
      clear hfk hokf ho hb hbl
      obtain ⟨wi, hwi⟩ : ∃ wi, wi = wr := ⟨_, rfl⟩
      subst hwi
      go_wp2_with (refine allocC rfl rfl ?_)
      constructor
      intro w3 hI3 hb3 hz3
      go_wp2_with (refine storeC (c := f) rfl (.tmp 5) (.tmp 11) rfl rfl rfl hI3 ?_)
      constructor
      intro w4 hs4
      have hI4 := hs4.i
      have g0 := hI4.c0
      have g1 := hI4.c1
      have HB4 := Lib.hid (bwstep HBW.out (hs4.bel hb3 (Nat.le_refl _)))
      have HO4 := Lib.hid (HO.out.below (hs4.bel hb3 (Nat.le_refl _)))
      clear hI3 hb3 hs4 hI4 HO hz3 c0 c1 c2 c3 c4
      go_wp2_with fail
      refine (htk _).mono ?_
      rintro e w5 ⟨rfl, hb5⟩
      have hB5 := bwalloc (bwstep HB4.out hb5) (.cells #[.string (keyS f.row f.col)] 9)
      have hO5 := (HO4.out.below hb5).below (bwalloc (bwrefl w5) (.cells #[.string (keyS f.row f.col)] 9))
      have hx5 := Rd.newW (xs := [keyS f.row f.col].map sv) w5 9 #[.string (keyS f.row f.col)] rfl (by simp [maxLen]) rfl
      have hs5 := hB5.size
      clear hb5 HO4 g0 g1
      go_wp2_with (at_builtin; refine wpList_app textT rfl rfl (.tmp 12) (.tmp 18) rfl rfl hO5 rfl hx5 (one_sv _) hsz3 hsz4 hs5 ?_; intro v6 w6 ho6 hg6 h6; have HO6 := Lib.hid ho6; have HB6 := Lib.hid (hB5.grown hg6 hs5 hO5.ge); clear ho6 hg6 h6)
      rw [← List.map_append, ← HKS.out] at HO6
      go_roundw
      case rel => exact ⟨k + 1, by omega, by go_num, HO6.out, HB6.out⟩
      case measure => simp [intOf]; omega
    · obtain rfl : k = L.length := by omega
      rw [List.take_length] at ho
      have hkr := ho.rd
      have hks : ∀ s ∈ keysS L, s.size ≤ 140737488351232 := by
        intro s hs
        obtain ⟨c, hc, rfl⟩ := List.mem_map.1 hs
        have hk := HOK.out c hc
        have h1 := hk.r2
        have h2 := hk.c2
        show (⟨(keyT c.row c.col).toArray⟩ : ByteArray).size ≤ _
        rw [ba_size]
        unfold keyT
        rw [List.length_append, textB_len, textB_len]
        omega
      have hkl : (keysS L).length = L.length := by simp [keysS]
      have hmk := Blm.make_any _ (keysS L) wr hkr (by omega) hks
      rw [keysS_kl] at hmk
      have HFD : Hid (Blm.mkB (L.map keyOf) = filt L) := Lib.hid rfl
      rw [HFD.out] at hmk
      have HB := Lib.hid hb
      clear HFD hkr hks hkl hb ho
      go_wp2_with fail
      refine hmk.mono ?_
      rintro e wa ⟨⟨xa, rfl, hxa⟩, hba⟩
      have HX := Lib.hid (hxa.mono HB.out.size)
      have HBA := Lib.hid (bwstep HB.out hba)
      clear hxa hba hmk
      go_wp2_with fail
      go_ret
      exact ⟨⟨_, rfl, HX.out⟩, HBA.out⟩
end Go.Proofs.YtgcbmdolbmmljaaGreat.Ce
