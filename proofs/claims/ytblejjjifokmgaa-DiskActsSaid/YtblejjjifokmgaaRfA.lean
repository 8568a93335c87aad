/- The contracts of the reference functions of layer 7: Named, Find, Used, Without, Put. -/
import Derived.Test.YtblejjjifokmgaaRf
import Derived.Test.YtblejjjifokmgaaDskC
import Derived.Deep.RegionLaw
namespace Go.Proofs.Ytblejjjifokmgaa
open Go.RowKit Go.Maps Dk

set_option maxHeartbeats 400000 in
theorem rnamed_any (s : ByteArray) (w : World) : Calls Try.prog 21 #[.string s] w fun e w' => e = .returned (.bool (named s)) ∧ w = w' := by
  by_cases h : 1 ≤ s.size
  · have h1 : (0 : Int) < s.size := by omega
    go_enter Try.func21, Try.ntmps21
    go_wp2
    go_ret
    refine ⟨ret1 (vb ?_), rfl⟩
    unfold named
    rw [Bool.eq_iff_iff]
    simp
    omega
  · have h0 : s.size = 0 := by omega
    have h1 : ¬ (0 : Int) < s.size := by omega
    go_enter Try.func21, Try.ntmps21
    go_wp2
    go_ret
    refine ⟨ret1 (vb ?_), rfl⟩
    unfold named
    simp [h0]
/-- a file's place; below 0: there is none -/
def fidx (n : List UInt8) : List Rf → Int
  | [] => -1
  | f :: L => if rk f = n then 0 else if fidx n L < 0 then -1 else fidx n L + 1
theorem fidx_ge (n : List UInt8) : ∀ L : List Rf, -1 ≤ fidx n L
  | [] => by simp [fidx]
  | f :: L => by
    have := fidx_ge n L
    unfold fidx
    split
    · omega
    split
    · omega
    · omega
theorem fidx_none {n : List UInt8} : ∀ {L : List Rf}, (∀ (j : Nat) (f : Rf), L[j]? = some f → rk f ≠ n) → fidx n L = -1
  | [], _ => rfl
  | f :: L, h => by
    have h0 := h 0 f rfl
    have ih := fidx_none (L := L) fun j g hg => h (j + 1) g (by simpa using hg)
    unfold fidx
    rw [if_neg h0, ih, if_pos (by omega)]
theorem fidx_at {n : List UInt8} : ∀ {L : List Rf} {k : Nat} {f : Rf}, L[k]? = some f → rk f = n → (∀ j g, j < k → L[j]? = some g → rk g ≠ n) → fidx n L = k
  | [], k, f, h, _, _ => by simp at h
  | g :: L, 0, f, h, hn, _ => by
    simp only [List.getElem?_cons_zero, Option.some.injEq] at h
    subst h
    unfold fidx
    rw [if_pos hn]
    rfl
  | g :: L, k + 1, f, h, hn, hj => by
    rw [List.getElem?_cons_succ] at h
    have ih := fidx_at h hn fun j q hjk hq => hj (j + 1) q (by omega) (by simpa using hq)
    unfold fidx
    rw [if_neg (hj 0 g (by omega) rfl), ih, if_neg (by omega)]
    omega
theorem name_key {f : Rf} {s : ByteArray} : rk f = s.data.toList ↔ f.fl.nm = s := ⟨fun h => name_ext h, fun h => by unfold rk key; rw [h]⟩
set_option maxHeartbeats 1000000 in
theorem rfind_any (v : Value) (L : List Rf) (S : List Nat) (s : ByteArray) (w : World) (hv : RdC w S v L) :
    Calls Try.prog 13 #[v, .string s] w fun e w' => e = .returned (.int .i64 (fidx s.data.toList L)) ∧ w = w' := by
  obtain ⟨A, c, rfl, hc, hm⟩ := hv.shape
  unfold maxLen at hm
  go_enter Try.func13, Try.ntmps13
  go_wp2_with fail
  go_loop [5] (fun i => ∃ k : Nat, k ≤ L.length ∧ i = .int .i64 (k : Int) ∧ ∀ j g, j < k → L[j]? = some g → rk g ≠ s.data.toList) (fun i => L.length - (intOf i).toNat)
  case atStart => exact ⟨0, Nat.zero_le _, rfl, fun j g hj => by omega⟩
  case round =>
    obtain ⟨k, hk, rfl, hj⟩ := hrel
    have HJ := Lib.hid hj
    clear hj
    by_cases hlt : k < L.length
    · obtain ⟨b, off, rfl, -, -⟩ := hv.open_ (by omega)
      have hfk : L[k]? = some L[k] := List.getElem?_eq_getElem hlt
      obtain ⟨c0, -, -⟩ := hv.at_ hfk
      have HFK := Lib.hid hfk
      clear hfk
      generalize L[k] = f at *
      by_cases he : f.fl.nm = s
      · have he1 := str_eq he
        have HE := Lib.hid he
        clear he
        go_wp2_with fail
        go_ret
        exact ⟨ret1 (vi (fidx_at HFK.out (name_key.2 HE.out) HJ.out).symm), rfl⟩
      · have he1 := str_ne he
        have HE := Lib.hid he
        clear he
        go_wp2_with fail
        go_round
        case rel =>
          refine ⟨k + 1, by omega, by go_num, fun j g hj hg => ?_⟩
          by_cases hjk : j = k
          · subst hjk
            rw [HFK.out] at hg
            injection hg with hg
            subst hg
            exact fun e => HE.out (name_key.1 e)
          · exact HJ.out j g (by omega) hg
        case measure => simp [intOf]; omega
    · go_wp2_with fail
      go_ret
      exact ⟨ret1 (vi (fidx_none fun j g hg => HJ.out j g (by have := (List.getElem?_eq_some_iff.1 hg).1; omega) hg).symm), rfl⟩
theorem total_snoc {L : List Rf} {k : Nat} {f : Rf} (h : L[k]? = some f) : total ((L.take (k + 1)).map Rf.fl) = total ((L.take k).map Rf.fl) + f.fl.l.length := by
  obtain ⟨hl, rfl⟩ := List.getElem?_eq_some_iff.1 h
  rw [List.take_succ_eq_append_getElem hl, List.map_append, total_app]
  simp [total]
theorem total_take_le (L : List Rf) (k : Nat) : total ((L.take k).map Rf.fl) ≤ total (L.map Rf.fl) := by
  have h := congrArg (fun x => total (x.map Rf.fl)) (List.take_append_drop k L)
  simp only [List.map_append, total_app] at h
  omega
set_option maxHeartbeats 1000000 in
theorem rused_any (v : Value) (L : List Rf) (S : List Nat) (w : World) (hv : RdF w S v L) (ht : total (L.map Rf.fl) ≤ 1000000000) :
    Calls Try.prog 22 #[v] w fun e w' => e = .returned (.int .i64 (total (L.map Rf.fl) : Int)) ∧ w = w' := by
  obtain ⟨A, c, rfl, hc, hm⟩ := hv.c.shape
  unfold maxLen at hm
  go_enter Try.func22, Try.ntmps22
  go_wp2_with fail
  go_loop [3, 4] (fun n i => ∃ k : Nat, k ≤ L.length ∧ i = .int .i64 (k : Int) ∧ n = .int .i64 (total ((L.take k).map Rf.fl) : Int)) (fun _ i => L.length - (intOf i).toNat)
  case atStart => exact ⟨0, Nat.zero_le _, rfl, rfl⟩
  case round =>
    obtain ⟨k, hk, rfl, rfl⟩ := hrel
    by_cases hlt : k < L.length
    · obtain ⟨b, off, rfl, -, -⟩ := hv.c.open_ (by omega)
      have hfk : L[k]? = some L[k] := List.getElem?_eq_getElem hlt
      obtain ⟨-, c1, -⟩ := hv.c.at_ hfk
      obtain ⟨A1, k1, e1, -, -⟩ := (hv.b L[k] (List.getElem_mem hlt)).1.shapeM
      rw [e1] at c1
      have hsn := Lib.hid (total_snoc hfk)
      have hle := total_take_le L (k + 1)
      rw [hsn.out] at hle
      clear hfk e1
      generalize L[k].fl.l.length = m at *
      generalize total ((L.take k).map Rf.fl) = t at *
      go_wp2_with fail
      go_round
      case rel => exact ⟨k + 1, by omega, by go_num, by rw [hsn.out]; go_num⟩
      case measure => simp [intOf]; omega
    · obtain rfl : k = L.length := by omega
      rw [List.take_length]
      go_wp2_with fail
      go_ret
      exact ⟨rfl, rfl⟩
theorem one3 {w : World} {S : List Nat} {v : Value} {L : List Rf} (h : RdF w S v L) : ∀ f ∈ L, f.v.oneCell' = true := fun f hf => by
  obtain ⟨A, c, e, _⟩ := (h.b f hf).1.shapeM
  rw [e]
  rfl
set_option maxHeartbeats 1000000 in
set_option maxRecDepth 100000 in
theorem rwo_any (v : Value) (L : List Rf) (S : List Nat) (k : Nat) (w : World) (hv : RdF w S v L) (hk : k < L.length) (hL : L.length ≤ 1000000) :
    Calls Try.prog 23 #[v, .int .i64 (k : Int)] w fun e w' => (∃ v', e = .returned v' ∧ OwF w' w.heap.size v' (L.take k ++ L.drop (k + 1))) ∧ Below w.heap.size w w' := by
  obtain ⟨A, c, rfl, hc, hm⟩ := hv.c.shape
  unfold maxLen at hm
  obtain ⟨b, off, rfl, -, -⟩ := hv.c.open_ (by omega)
  have o1 : ∀ f ∈ L.take k, f.v.oneCell' = true := fun f hf => one3 hv f (List.mem_of_mem_take hf)
  have o2 : ∀ f ∈ L.drop (k + 1), f.v.oneCell' = true := fun f hf => one3 hv f (List.mem_of_mem_drop hf)
  have hb0 : Below w.heap.size w (w.alloc (.cells #[] 58)).drew := (bwalloc (bwrefl w) _).drew
  have r1 := (hv.c.to_ (Nat.le_of_lt hk)).bel hb0
  have e1 : OwF (w.alloc (.cells #[] 58)).drew w.heap.size (.slice (some ⟨w.heap.size, 0, none⟩) 0 0) [] := OwF.empty w (Nat.le_refl _) _ rfl
  have l1 : ([] : List Rf).length + (L.take k).length ≤ 1000000000 := by simp; omega
  have l2 : (L.take k).length + (L.drop (k + 1)).length ≤ 1000000000 := by simp; omega
  have hs0 : w.heap.size ≤ (w.alloc (.cells #[] 58)).drew.heap.size := hb0.size
  have k0 : (0 : Int) ≤ (k : Int) := by omega
  have k1 : (k : Int) ≤ (c : Int) := by omega
  have k2 : (k : Int) + 1 ≤ (L.length : Int) := by omega
  have k3 : (L.length : Int) ≤ (c : Int) := by omega
  have k4 : k + 1 ≤ L.length := hk
  have k5 : k ≤ c := by omega
  have k7 : (0 : Int) ≤ (k : Int) + 1 := by omega
  have k6 : (k : Int) ≤ (k : Int) + 1 := by omega
  have hw : IntKind.i64.wrap ((k : Int) + 1) = (k : Int) + 1 := IntWalk.i64_in _ (by omega)
  by_cases hck : c = k + 1
  · subst hck
    have hd : L.drop (k + 1) = [] := List.drop_eq_nil_of_le (by omega)
    have r2 : RdC w S (.slice (some ⟨b, off, none⟩) 0 0) (L.drop (k + 1)) := by rw [hd]; exact RdC.none_ (by simp [maxLen])
    have hlk : L.length = k + 1 := by omega
    have HLK := Lib.hid hlk
    generalize L.drop (k + 1) = Ld at *
    generalize L.take k = Lt at *
    have HRD := Lib.hid (fun (w' : World) (hb : Below w.heap.size w w') => r2.bel hb)
    clear r2 hd
    go_enter Try.func23, Try.ntmps23
    go_wp2_with fail
    rw [hlk] at *
    go_region_law (first
      | (refine step_appF rfl (.tmp 5) (.tmp 8) rfl (by simp [Act.eval]) e1 (by simp [Act.eval]) r1 o1 l1 hs0 ?_; intro v1 w1 p1 g1 h1; rw [List.nil_append] at p1; have hb1 := hb0.grown g1 hb0.size (fun q hq => (e1.lt q hq).1); have r2 := HRD.out _ hb1; have hs1 := hb1.size)
      | (refine step_appF rfl (.tmp 9) (.tmp 13) rfl (by simp [Act.eval]) p1 (by simp [Act.eval]) r2 o2 l2 hs1 ?_; intro v2 w2 p2 g2 h2; have HB2 := Lib.hid (hb1.grown g2 hb1.size (fun q hq => (p1.lt q hq).1))))
    all_goals (go_wp2_with fail; go_ret; exact ⟨⟨_, rfl, p2⟩, HB2.out⟩)
  · have r2 : RdC w S (.slice (some ⟨b, off + (k + 1) * 3, none⟩) (L.length - (k + 1)) (c - (k + 1))) (L.drop (k + 1)) := hv.c.from_ hk
    generalize L.drop (k + 1) = Ld at *
    generalize L.take k = Lt at *
    have HRD := Lib.hid (fun (w' : World) (hb : Below w.heap.size w w') => r2.bel hb)
    clear r2
    go_enter Try.func23, Try.ntmps23
    go_wp2_with fail
    go_region_law (first
      | (refine step_appF rfl (.tmp 5) (.tmp 8) rfl (by simp [Act.eval]) e1 (by simp [Act.eval]) r1 o1 l1 hs0 ?_; intro v1 w1 p1 g1 h1; rw [List.nil_append] at p1; have hb1 := hb0.grown g1 hb0.size (fun q hq => (e1.lt q hq).1); have r2 := HRD.out _ hb1; have hs1 := hb1.size)
      | (refine step_appF rfl (.tmp 9) (.tmp 13) rfl (by simp [Act.eval]) p1 (by simp [Act.eval]) r2 o2 l2 hs1 ?_; intro v2 w2 p2 g2 h2; have HB2 := Lib.hid (hb1.grown g2 hb1.size (fun q hq => (p1.lt q hq).1))))
    all_goals (go_wp2_with fail; go_ret; exact ⟨⟨_, rfl, p2⟩, HB2.out⟩)
end Go.Proofs.Ytblejjjifokmgaa
