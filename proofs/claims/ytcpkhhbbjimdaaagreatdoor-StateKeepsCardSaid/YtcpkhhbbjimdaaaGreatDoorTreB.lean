/- A tree's shelf: within, right; New. A tree's tables, asked one by one by a closure that is handed on. A tree's tables' cells, listed. A tree's newest cell of a row and column up to a time: memory and all tables asked; is a key there? -/
import Derived.Test.YtcpkhhbbjimdaaaGreatDoorTreA
set_option maxHeartbeats 8000000
set_option maxRecDepth 100000
namespace Go.Proofs.YtcpkhhbbjimdaaaGreatDoor.Ce
open Go.RowKit
theorem twithin_any (n m : Int) (w : World) : Calls Tryz.prog 47 #[.int .i64 n, .int .i64 m] w fun e w' => e = .returned (.bool (decide (1 ≤ n ∧ n ≤ m))) ∧ w = w' := by
 have HQ : Hid (∀ q : Bool, (q = true ↔ 1 ≤ n ∧ n ≤ m) → q = decide (1 ≤ n ∧ n ≤ m)) := Lib.hid fun q h => by
  rw [Bool.eq_iff_iff, h, decide_eq_true_iff]
 generalize decide (1 ≤ n ∧ n ≤ m) = p at *
 go_enter Tryz.func47, Tryz.ntmps47
 by_cases h1 : 1 ≤ n
 ·by_cases h2 : n ≤ m
  ·have HF := Lib.hid (HQ.out true (by simp [h1, h2]))
   go_wp2_with fail
   go_ret
   rw [← HF.out]
   exact ⟨rfl, rfl⟩
  ·have HF := Lib.hid (HQ.out false (by simp [h2]))
   go_wp2_with fail
   go_ret
   rw [← HF.out]
   exact ⟨rfl, rfl⟩
 ·have HF := Lib.hid (HQ.out false (by simp [h1]))
  go_wp2_with fail
  go_ret
  rw [← HF.out]
  exact ⟨rfl, rfl⟩
theorem right_three (s : Sf) : decide s.right = (decide (1 ≤ s.mem ∧ s.mem ≤ 4096) && (decide (1 ≤ s.block ∧ s.block ≤ 4096) && decide (1 ≤ s.fan ∧ s.fan ≤ 8))) := by
 rw [← Bool.decide_and, ← Bool.decide_and, decide_eq_decide, Sf.right_iff]
 constructor
 ·rintro ⟨a, b, c, d, e, f⟩
  exact ⟨⟨a, b⟩, ⟨c, d⟩, e, f⟩
 ·rintro ⟨⟨a, b⟩, ⟨c, d⟩, e, f⟩
  exact ⟨a, b, c, d, e, f⟩
theorem tright_any (s : Sf) (w : World) : Calls Tryz.prog 31 #[s.v] w fun e w' => e = .returned (.bool (decide s.right)) ∧ Below w.heap.size w w' := by
 have h1 := fun w => twithin_any s.mem 4096 w
 have h2 := fun w => twithin_any s.block 4096 w
 have h3 := fun w => twithin_any s.fan 8 w
 rw [right_three]
 generalize decide (1 ≤ s.mem ∧ s.mem ≤ 4096) = q1 at *
 generalize decide (1 ≤ s.block ∧ s.block ≤ 4096) = q2 at *
 generalize decide (1 ≤ s.fan ∧ s.fan ≤ 8) = q3 at *
 go_enter Tryz.func31, Tryz.ntmps31
 go_wp2_with (refine St.box sfD rfl (.tmp 0) s rfl rfl ?_)
 constructor
 intro w1 hI1 hb1 hz1
 have c0 : w1.cell? ⟨w.heap.size, 0, none⟩ = some (.int .i64 s.mem) := hI1.at_ (i := 0) rfl
 have c1 : w1.cell? ⟨w.heap.size, 1, none⟩ = some (.int .i64 s.block) := hI1.at_ (i := 1) rfl
 have c2 : w1.cell? ⟨w.heap.size, 2, none⟩ = some (.int .i64 s.fan) := hI1.at_ (i := 2) rfl
 have HB := Lib.hid hb1
 clear hI1 hb1 hz1
 go_wp2_with fail
 refine (h1 _).mono ?_
 rintro e w2 ⟨rfl, rfl⟩
 cases q1
 ·go_wp2_with fail
  go_ret
  exact ⟨rfl, HB.out⟩
 ·go_wp2_with fail
  refine (h2 _).mono ?_
  rintro e w2 ⟨rfl, rfl⟩
  cases q2
  ·go_wp2_with fail
   go_ret
   exact ⟨rfl, HB.out⟩
  ·go_wp2_with fail
   refine (h3 _).mono ?_
   rintro e w2 ⟨rfl, rfl⟩
   go_wp2_with fail
   go_ret
   exact ⟨rfl, HB.out⟩
theorem tree_built (s : Sf) : Tryz.prog.built 58 [(0, .agg #[.int .i64 s.mem, .int .i64 s.block, .int .i64 s.fan]), (1, .agg #[.slice none 0 0, .int .i64 0])] = some #[.int .i64 s.mem, .int .i64 s.block, .int .i64 s.fan, .slice none 0 0, .int .i64 0, .slice none 0 0, .int .i64 0] := by kernel_rfl
theorem tnew_ok (s : Sf) (w : World) (h : s.right) : Calls Tryz.prog 19 #[s.v] w fun e w' => (∃ b, e = .returned (.tuple #[.pointer (some ⟨b, 0, none⟩), .int .i64 0]) ∧ w.heap.size ≤ b ∧ w'.heap[b]? = some (.cells #[.int .i64 s.mem, .int .i64 s.block, .int .i64 s.fan, .slice none 0 0, .int .i64 0, .slice none 0 0, .int .i64 0] 58 (0, 0))) ∧ Below w.heap.size w w' := by
 have hr := fun w => tright_any s w
 rw [decide_eq_true h] at hr
 clear h
 have hbt := tree_built s
 go_enter Tryz.func19, Tryz.ntmps19
 go_wp2_with (refine St.box sfD rfl (.tmp 0) s rfl rfl ?_)
 constructor
 intro w1 hI1 hb1 hz1
 go_wp2_with (refine St.load sfOk rfl (.tmp 1) rfl rfl hI1 ?_)
 refine (hr _).mono ?_
 rintro e w2 ⟨rfl, hb2⟩
 have HB := Lib.hid (bwstep hb1 hb2)
 have HI := Lib.hid (hI1.up hb2)
 clear hI1 hb1 hb2 hz1 hr
 go_wp2_with fail
 have c0 : w2.drew.cell? ⟨w.heap.size, 0, none⟩ = some (.int .i64 s.mem) := HI.out.at_ (i := 0) rfl
 have c1 : w2.drew.cell? ⟨w.heap.size, 1, none⟩ = some (.int .i64 s.block) := HI.out.at_ (i := 1) rfl
 have c2 : w2.drew.cell? ⟨w.heap.size, 2, none⟩ = some (.int .i64 s.fan) := HI.out.at_ (i := 2) rfl
 go_region_law (go_simp; go_at_call 32; refine (mnew_any _).mono ?_; rintro e w3 ⟨⟨bm, rfl, hbm, hm⟩, hb3⟩; have m0 := hm.c0; have m1 := hm.c1; have i0 : w3.cell? ⟨w.heap.size, 0, none⟩ = some (.int .i64 s.mem) := ((HI.out.up (Below.refl _ _).drew).up hb3).at_ (i := 0) rfl; have i1 : w3.cell? ⟨w.heap.size, 1, none⟩ = some (.int .i64 s.block) := ((HI.out.up (Below.refl _ _).drew).up hb3).at_ (i := 1) rfl; have i2 : w3.cell? ⟨w.heap.size, 2, none⟩ = some (.int .i64 s.fan) := ((HI.out.up (Below.refl _ _).drew).up hb3).at_ (i := 2) rfl)
 all_goals
  go_wp2_with fail
  go_ret2
  exact ⟨⟨_, rfl, Nat.le_trans HB.out.size (Nat.le_trans (Below.refl w2.heap.size w2).drew.size hb3.size), heap_alloc_new _ _⟩, bwalloc (bwstep HB.out (bwstep (Below.refl _ _).drew hb3)) _⟩
end Go.Proofs.YtcpkhhbbjimdaaaGreatDoor.Ce
namespace Go.Proofs.YtcpkhhbbjimdaaaGreatDoor.Ce
open Go.RowKit
theorem askL_any (v : Value) (X : List (List (List Cl))) (w w1 : World) (hv : RdV w [] v X) (hX : X.length ≤ 1000000) (hT : ∀ T ∈ X, T.length ≤ 1000000) (lb : Nat) (J : List (List Cl) → World → Prop) (hJ : ∀ D wr, J D wr → Below w.heap.size w wr) (h0 : J [] w1)
  (hc : ∀ (D : List (List Cl)) (C : List Cl) (p : Nat) (wr : World), C ∈ X.flatten → D.length < X.flatten.length → Tb wr [] p C → J D wr → Calls Tryz.prog 62 #[.pointer (some ⟨p, 0, none⟩), .pointer (some ⟨lb, 0, none⟩)] wr fun e w' => (∃ u, e = .returned u) ∧ J (D ++ [C]) w') :
  Calls Tryz.prog 61 #[v, .func (.func 62) #[] #[.pointer (some ⟨lb, 0, none⟩)]] w1 fun e w' => (∃ u, e = .returned u) ∧ J X.flatten w' := by
 obtain ⟨A, c, rfl, hcx, hm⟩ := hv.shape
 unfold maxLen at hm
 have HV := Lib.hid hv
 have HT := Lib.hid hT
 have HJ := Lib.hid hJ
 have HC := Lib.hid hc
 have H0 := Lib.hid h0
 clear hv hT hJ hc h0
 go_enter Tryz.func61, Tryz.ntmps61
 go_wp2_with fail
 go_loopw [10] (fun i wr => ∃ k : Nat, k ≤ X.length ∧ i = .int .i64 (k : Int) ∧ Hid (J (X.take k).flatten wr)) (fun i _ => X.length - (intOf i).toNat)
 case atStart => exact ⟨0, Nat.zero_le _, rfl, Lib.hid (by simpa using H0.out)⟩
 case round =>
  obtain ⟨k, hk, rfl, HK⟩ := hrel
  obtain ⟨wo, hwo⟩ : ∃ wo, wo = wr := ⟨_, rfl⟩
  subst hwo
  have HBO := Lib.hid (HJ.out _ _ HK.out)
  by_cases hlt : k < X.length
  ·have hfk : X[k]? = some (X[k]'hlt) := List.getElem?_eq_getElem _
   have hmem := List.mem_of_getElem? hfk
   have HTS : Hid ((X.take (k + 1)).flatten = (X.take k).flatten ++ X[k]'hlt) := Lib.hid (by rw [List.take_succ_eq_append_getElem hlt, List.flatten_append, List.flatten_cons, List.flatten_nil, List.append_nil])
   generalize X[k]'hlt = T at hfk hmem HTS
   have HIN : Hid (∀ C ∈ T, C ∈ X.flatten) := Lib.hid fun C hC => List.mem_flatten.2 ⟨T, hmem, hC⟩
   have HLN : Hid ((X.take k).flatten.length + T.length ≤ X.flatten.length) := Lib.hid (by
    have h1 := congrArg List.length HTS.out
    rw [List.length_append] at h1
    have h2 : X.flatten.length = (X.take (k + 1)).flatten.length + (X.drop (k + 1)).flatten.length := by
     rw [← List.length_append, ← List.flatten_append, List.take_append_drop]
    omega)
   have hTl := HT.out T hmem
   obtain ⟨b, off, rfl, hbs, hat⟩ := HV.out.at_ (by omega)
   obtain ⟨u, hu, hL⟩ := hat k T hfk
   have hu := (HBO.out.cell (p := ⟨b, off + k, none⟩) hbs).trans hu
   obtain ⟨At, ct, rfl, hct, hmt⟩ := hL.shape
   unfold maxLen at hmt
   have HL := Lib.hid hL
   have hh3 : (0 : Int) ≤ (k : Int) := by omega
   have hh4 : (k : Int) < (X.length : Int) := by omega
   obtain ⟨E, hE⟩ : ∃ E, E = (X.take k).flatten := ⟨_, rfl⟩
   rw [← hE] at HK HTS HLN
   clear hat hL hmem hfk hE
   go_wp2_with fail
   go_loopw [16] (fun i wr => ∃ j : Nat, j ≤ T.length ∧ i = .int .i64 (j : Int) ∧ Hid (J (E ++ T.take j) wr)) (fun i _ => T.length - (intOf i).toNat)
   case atStart => exact ⟨0, Nat.zero_le _, rfl, Lib.hid (by simpa using HK.out)⟩
   case round =>
    obtain ⟨j, hj, rfl, HKJ⟩ := hrel
    have hbj := HJ.out _ _ HKJ.out
    by_cases hlj : j < T.length
    ·have hfj : T[j]? = some (T[j]'hlj) := List.getElem?_eq_getElem _
     have hC := HIN.out _ (List.mem_of_getElem? hfj)
     have HTJ : Hid (E ++ T.take (j + 1) = E ++ T.take j ++ [T[j]'hlj]) := Lib.hid (by rw [List.take_succ_eq_append_getElem hlj, List.append_assoc])
     generalize T[j]'hlj = C at hfj hC HTJ
     have hDl : (E ++ T.take j).length < X.flatten.length := by
      have := HLN.out
      rw [List.length_append, List.length_take]
      omega
     obtain ⟨bt, offt, rfl, hbt, hatt⟩ := (HL.out.up hbj).at_ (by omega)
     obtain ⟨p, hp, hTb⟩ := hatt j C hfj
     unfold tpv at hp
     have hg3 : (0 : Int) ≤ (j : Int) := by omega
     have hg4 : (j : Int) < (T.length : Int) := by omega
     have HCC := Lib.hid (HC.out (E ++ T.take j) C p _ hC hDl hTb HKJ.out)
     clear hatt hTb hfj hDl hbj hC HKJ
     go_wp2_with (go_at_call 62; refine HCC.out.mono ?_; rintro e w2 ⟨⟨u, rfl⟩, hJ2⟩; have HJ2 := Lib.hid hJ2; clear hJ2)
     go_roundw
     case rel => exact ⟨j + 1, by omega, by go_num, Lib.hid (by rw [HTJ.out]; exact HJ2.out)⟩
     case measure => simp [intOf]; omega
    ·obtain rfl : j = T.length := by omega
     rw [List.take_length, ← HTS.out] at HKJ
     go_wp2_with fail
     go_roundw
     case rel => exact ⟨k + 1, by omega, by go_num, HKJ⟩
     case measure => simp [intOf]; omega
  ·obtain rfl : k = X.length := by omega
   rw [List.take_length] at HK
   go_wp2_with fail
   go_end0
   exact ⟨⟨_, rfl⟩, HK.out⟩
theorem askN_any (v : Value) (X : List (List (List Cl))) (w w1 : World) (hv : RdV w [] v X) (hX : X.length ≤ 1000000) (hT : ∀ T ∈ X, T.length ≤ 1000000) (b1 : Nat) (b2 : Nat) (b3 : Nat) (b4 : Nat) (b5 : Nat) (J : List (List Cl) → World → Prop) (hJ : ∀ D wr, J D wr → Below w.heap.size w wr) (h0 : J [] w1)
  (hc : ∀ (D : List (List Cl)) (C : List Cl) (p : Nat) (wr : World), C ∈ X.flatten → D.length < X.flatten.length → Tb wr [] p C → J D wr → Calls Tryz.prog 91 #[.pointer (some ⟨p, 0, none⟩), .pointer (some ⟨b1, 0, none⟩), .pointer (some ⟨b2, 0, none⟩), .pointer (some ⟨b3, 0, none⟩), .pointer (some ⟨b4, 0, none⟩), .pointer (some ⟨b5, 0, none⟩)] wr fun e w' => (∃ u, e = .returned u) ∧ J (D ++ [C]) w') :
  Calls Tryz.prog 61 #[v, .func (.func 91) #[] #[.pointer (some ⟨b1, 0, none⟩), .pointer (some ⟨b2, 0, none⟩), .pointer (some ⟨b3, 0, none⟩), .pointer (some ⟨b4, 0, none⟩), .pointer (some ⟨b5, 0, none⟩)]] w1 fun e w' => (∃ u, e = .returned u) ∧ J X.flatten w' := by
 obtain ⟨A, c, rfl, hcx, hm⟩ := hv.shape
 unfold maxLen at hm
 have HV := Lib.hid hv
 have HT := Lib.hid hT
 have HJ := Lib.hid hJ
 have HC := Lib.hid hc
 have H0 := Lib.hid h0
 clear hv hT hJ hc h0
 go_enter Tryz.func61, Tryz.ntmps61
 go_wp2_with fail
 go_loopw [10] (fun i wr => ∃ k : Nat, k ≤ X.length ∧ i = .int .i64 (k : Int) ∧ Hid (J (X.take k).flatten wr)) (fun i _ => X.length - (intOf i).toNat)
 case atStart => exact ⟨0, Nat.zero_le _, rfl, Lib.hid (by simpa using H0.out)⟩
 case round =>
  obtain ⟨k, hk, rfl, HK⟩ := hrel
  obtain ⟨wo, hwo⟩ : ∃ wo, wo = wr := ⟨_, rfl⟩
  subst hwo
  have HBO := Lib.hid (HJ.out _ _ HK.out)
  by_cases hlt : k < X.length
  ·have hfk : X[k]? = some (X[k]'hlt) := List.getElem?_eq_getElem _
   have hmem := List.mem_of_getElem? hfk
   have HTS : Hid ((X.take (k + 1)).flatten = (X.take k).flatten ++ X[k]'hlt) := Lib.hid (by rw [List.take_succ_eq_append_getElem hlt, List.flatten_append, List.flatten_cons, List.flatten_nil, List.append_nil])
   generalize X[k]'hlt = T at hfk hmem HTS
   have HIN : Hid (∀ C ∈ T, C ∈ X.flatten) := Lib.hid fun C hC => List.mem_flatten.2 ⟨T, hmem, hC⟩
   have HLN : Hid ((X.take k).flatten.length + T.length ≤ X.flatten.length) := Lib.hid (by
    have h1 := congrArg List.length HTS.out
    rw [List.length_append] at h1
    have h2 : X.flatten.length = (X.take (k + 1)).flatten.length + (X.drop (k + 1)).flatten.length := by
     rw [← List.length_append, ← List.flatten_append, List.take_append_drop]
    omega)
   have hTl := HT.out T hmem
   obtain ⟨b, off, rfl, hbs, hat⟩ := HV.out.at_ (by omega)
   obtain ⟨u, hu, hL⟩ := hat k T hfk
   have hu := (HBO.out.cell (p := ⟨b, off + k, none⟩) hbs).trans hu
   obtain ⟨At, ct, rfl, hct, hmt⟩ := hL.shape
   unfold maxLen at hmt
   have HL := Lib.hid hL
   have hh3 : (0 : Int) ≤ (k : Int) := by omega
   have hh4 : (k : Int) < (X.length : Int) := by omega
   obtain ⟨E, hE⟩ : ∃ E, E = (X.take k).flatten := ⟨_, rfl⟩
   rw [← hE] at HK HTS HLN
   clear hat hL hmem hfk hE
   go_wp2_with fail
   go_loopw [16] (fun i wr => ∃ j : Nat, j ≤ T.length ∧ i = .int .i64 (j : Int) ∧ Hid (J (E ++ T.take j) wr)) (fun i _ => T.length - (intOf i).toNat)
   case atStart => exact ⟨0, Nat.zero_le _, rfl, Lib.hid (by simpa using HK.out)⟩
   case round =>
    obtain ⟨j, hj, rfl, HKJ⟩ := hrel
    have hbj := HJ.out _ _ HKJ.out
    by_cases hlj : j < T.length
    ·have hfj : T[j]? = some (T[j]'hlj) := List.getElem?_eq_getElem _
     have hC := HIN.out _ (List.mem_of_getElem? hfj)
     have HTJ : Hid (E ++ T.take (j + 1) = E ++ T.take j ++ [T[j]'hlj]) := Lib.hid (by rw [List.take_succ_eq_append_getElem hlj, List.append_assoc])
     generalize T[j]'hlj = C at hfj hC HTJ
     have hDl : (E ++ T.take j).length < X.flatten.length := by
      have := HLN.out
      rw [List.length_append, List.length_take]
      omega
     obtain ⟨bt, offt, rfl, hbt, hatt⟩ := (HL.out.up hbj).at_ (by omega)
     obtain ⟨p, hp, hTb⟩ := hatt j C hfj
     unfold tpv at hp
     have hg3 : (0 : Int) ≤ (j : Int) := by omega
     have hg4 : (j : Int) < (T.length : Int) := by omega
     have HCC := Lib.hid (HC.out (E ++ T.take j) C p _ hC hDl hTb HKJ.out)
     clear hatt hTb hfj hDl hbj hC HKJ
     go_wp2_with (go_at_call 91; refine HCC.out.mono ?_; rintro e w2 ⟨⟨u, rfl⟩, hJ2⟩; have HJ2 := Lib.hid hJ2; clear hJ2)
     go_roundw
     case rel => exact ⟨j + 1, by omega, by go_num, Lib.hid (by rw [HTJ.out]; exact HJ2.out)⟩
     case measure => simp [intOf]; omega
    ·obtain rfl : j = T.length := by omega
     rw [List.take_length, ← HTS.out] at HKJ
     go_wp2_with fail
     go_roundw
     case rel => exact ⟨k + 1, by omega, by go_num, HKJ⟩
     case measure => simp [intOf]; omega
  ·obtain rfl : k = X.length := by omega
   rw [List.take_length] at HK
   go_wp2_with fail
   go_end0
   exact ⟨⟨_, rfl⟩, HK.out⟩
end Go.Proofs.YtcpkhhbbjimdaaaGreatDoor.Ce
namespace Go.Proofs.YtcpkhhbbjimdaaaGreatDoor.Ce
open Go.RowKit
theorem box_ow {w : World} {B lb : Nat} {u v : Value} {xs : List Value} (hb : w.heap[lb]? = some (.cells #[u] 92 (0, 0))) (h : Ow w B 27 v xs) : v.ownBlock ≠ some lb := fun e => by
 rcases h.2 with ⟨rfl, -⟩ | ⟨g, cap, cur, rfl, -, hh, -⟩
 ·cases e
 ·have e1 : g = lb := by injection e
  subst e1
  rw [hb] at hh
  injection hh with hh
  injection hh with _ ht _
  exact absurd ht (by decide)
theorem box_owL {w : World} {B lb : Nat} {u v : Value} {L : List Cl} (hb : w.heap[lb]? = some (.cells #[u] 92 (0, 0))) (h : OwL w B v L) : v.ownBlock ≠ some lb := fun e => by
 rcases h.2 with ⟨rfl, -⟩ | ⟨g, cap, cur, rfl, -, hh, -⟩
 ·cases e
 ·have e1 : g = lb := by injection e
  subst e1
  rw [hb] at hh
  injection hh with hh
  injection hh with _ ht _
  exact absurd ht (by decide)
theorem OwB.setBox {w : World} {B lb : Nat} {u v : Value} {vs : List Value} {LL : List (List Cl)} (h : OwB w B v vs LL) (hb : w.heap[lb]? = some (.cells #[u] 92 (0, 0))) (y : Value) : OwB (w.setCell ⟨lb, 0, none⟩ y) B v vs LL :=
 ⟨h.out.kept (grownBy_setCell w lb 0 y) fun k hk e => by
   injection e with e
   subst e
   exact box_ow hb h.out hk, h.len, fun j u L hu hL => (h.row j u L hu hL).keptR (grownBy_setCell w lb 0 y) fun k hk e => by
   injection e with e
   subst e
   exact box_owL hb (h.row j u L hu hL) hk⟩
def Jl (w : World) (lb : Nat) (D : List (List Cl)) (wr : World) : Prop :=
 (∃ x vs, wr.heap[lb]? = some (.cells #[x] 92 (0, 0)) ∧ OwB wr w.heap.size x vs D) ∧ Below w.heap.size w wr
theorem Jl.end_ {w wr wa w7 : World} {lb : Nat} {D : List (List Cl)} {C : List Cl} {x v7 : Value} {vs : List Value} {ys : List Value} (hlb : w.heap.size ≤ lb) (hb : wr.heap[lb]? = some (.cells #[x] 92 (0, 0))) (hbl : Below w.heap.size w wr) (hab : Below wr.heap.size wr wa) (h1 : OwB wa w.heap.size x vs D) (hg : wa.grownBy w7 x.ownBlock) (ho : OwB w7 w.heap.size v7 ys (D ++ [C])) :
  Jl w lb (D ++ [C]) (w7.setCell ⟨lb, 0, none⟩ v7) := by
 have hba := (hab.block lb (Array.getElem?_eq_some_iff.1 hb).1).trans hb
 have hb7 : w7.heap[lb]? = some (.cells #[x] 92 (0, 0)) := (hg.block lb (Array.getElem?_eq_some_iff.1 hba).1 fun e => box_ow hba h1.out e.symm).trans hba
 refine ⟨⟨v7, ys, ?_, ho.setBox hb7 v7⟩, ?_⟩
 ·unfold World.setCell
  simp [Array.getElem?_modify, hb7]
 ·have hsz : w.heap.size ≤ wa.heap.size := Nat.le_trans hbl.size hab.size
  exact ((bwstep hbl hab).grown hg hsz h1.out.ge).setCell (p := ⟨lb, 0, none⟩) hlb v7
theorem listsC_any (w : World) (lb : Nat) (D : List (List Cl)) (C : List Cl) (p : Nat) (wr : World) (hlb : w.heap.size ≤ lb) (hD : D.length ≤ 1000000) (hCl : C.length ≤ 1000000) (hT : Tb wr [] p C) (h : Jl w lb D wr) :
  Calls Tryz.prog 62 #[.pointer (some ⟨p, 0, none⟩), .pointer (some ⟨lb, 0, none⟩)] wr fun e w' => (∃ u, e = .returned u) ∧ Jl w lb (D ++ [C]) w' := by
 obtain ⟨⟨x, vs, hb, ho⟩, hbl⟩ := h
 obtain ⟨nn, hT⟩ := hT.tv
 have hDl : D.length ≤ 1000000000 := by omega
 obtain ⟨A, c, rfl, -, -⟩ := ho.out.rd.shape
 have c0 : wr.drew.cell? ⟨lb, 0, none⟩ = some (.slice A vs.length c) := cell_of_row _ _ 0 _ _ _ hb
 have HO := Lib.hid ho
 have HB := Lib.hid hbl
 have HLB := Lib.hid hlb
 have HX := Lib.hid hb
 have HT := Lib.hid hT
 have HK : Hid (∀ z, Below wr.heap.size wr z → z.cell? ⟨lb, 0, none⟩ = some (.slice A vs.length c) ∧ z.frozen? ⟨lb, 0, none⟩ = false) := Lib.hid fun z hz => by
  have := (hz.block lb (Array.getElem?_eq_some_iff.1 HX.out).1).trans HX.out
  exact ⟨cell_of_row _ _ 0 _ _ _ this, frozen_of_row _ _ _ _ _ this⟩
 have HF : Hid (∀ z w7, Below wr.heap.size wr z → z.grownBy w7 (Value.slice A vs.length c).ownBlock → w7.frozen? ⟨lb, 0, none⟩ = false ∧ w7.cell? ⟨lb, 0, none⟩ = some (.slice A vs.length c)) := Lib.hid fun z w7 hz hg => by
  have h1 := (hz.block lb (Array.getElem?_eq_some_iff.1 HX.out).1).trans HX.out
  have h2 := (hg.block lb (Array.getElem?_eq_some_iff.1 h1).1 fun e => box_ow h1 (HO.out.below hz).out e.symm).trans h1
  exact ⟨frozen_of_row _ _ _ _ _ h2, cell_of_row _ _ 0 _ _ _ h2⟩
 have hbd := (Below.refl wr.heap.size wr).drew
 have hszr := hbl.size
 clear ho hbl hb hT
 go_enter Tryz.func62, Tryz.ntmps62
 go_wp2_with fail
 go_region_law (first
  | (go_simp; go_at_call 63; refine (tcells_any 0 p nn C _ (HT.out.up hbd) hCl).mono ?_; rintro e w2 ⟨⟨y, rfl, hy⟩, hb2⟩; obtain ⟨Ay, cy, rfl, -, -⟩ := (hy.rd (S := []) (fun _ h => by cases h)).shape; have hb2 := bwstep hbd hb2; have hbA := bwalloc hb2 (.cells #[.slice Ay C.length cy] 27); have hob := HO.out.below hbA; have hsz9 := Nat.le_trans hszr hbA.size; have hou := (hy.below (bwalloc (bwrefl w2) (.cells #[.slice Ay C.length cy] 27))).mono (Nat.le_trans hszr hbd.size); have hrd : Rd (w2.alloc (.cells #[.slice Ay C.length cy] 27)) _ (.slice (some ⟨w2.heap.size, 0, none⟩) 1 1) [.slice Ay C.length cy] := Rd.newW w2 27 #[.slice Ay C.length cy] rfl (by simp [maxLen]) rfl; obtain ⟨k0, -⟩ := HK.out _ hb2; obtain ⟨k1, -⟩ := HK.out _ hbA; clear hy)
  | (refine step_pushB rfl (.tmp 3) (.tmp 6) rfl (by simp [Act.eval]) hob hou (by simp [Act.eval]) hrd hDl hsz9 ?_; intro v7 w7 ho7 hg7; obtain ⟨A7, c7, rfl, -, -⟩ := ho7.out.rd.shape; obtain ⟨f7, g7⟩ := HF.out _ _ hbA hg7; have HE := Lib.hid (Jl.end_ (C := C) HLB.out HX.out HB.out hbA hob hg7 ho7); clear ho7 hg7))
 all_goals
  go_end0
  have he := HE.out
  rw [List.length_append, List.length_singleton] at he
  exact ⟨⟨_, rfl⟩, he⟩
theorem lists_any (v : Value) (X : List (List (List Cl))) (w : World) (hv : RdV w [] v X) (hX : X.length ≤ 1000000) (hT : ∀ T ∈ X, T.length ≤ 1000000) (hF : X.flatten.length ≤ 1000000) (hC : ∀ C ∈ X.flatten, C.length ≤ 1000000) :
  Calls Tryz.prog 46 #[v] w fun e w' => (∃ x vs, e = .returned x ∧ OwB w' w.heap.size x vs X.flatten) ∧ Below w.heap.size w w' := by
 have HJ0 : Hid (Jl w w.heap.size [] (w.alloc (.cells #[.slice none 0 0] 92))) := Lib.hid ⟨⟨_, [], heap_alloc_new _ _, OwB.nil _ _⟩, bwalloc (bwrefl w) _⟩
 have HASK := Lib.hid (askL_any v X w (w.alloc (.cells #[.slice none 0 0] 92)) hv hX hT w.heap.size (Jl w w.heap.size) (fun D wr h => h.2) HJ0.out fun D C p wr hm hl hTb hJ => listsC_any w w.heap.size D C p wr (Nat.le_refl _) (by omega) (hC C hm) hTb hJ)
 obtain ⟨A, c, rfl, -, -⟩ := hv.shape
 clear hv hX hT hF hC HJ0
 have hmf : ∀ (fn : Fn) (first cap : Array Value) (w : World), (Instr.makeFunc fn first cap).run Tryz.prog w = .ok (.func fn first cap) w := fun _ _ _ _ => rfl
 go_enter Tryz.func46, Tryz.ntmps46
 go_wp2_with fail
 refine HASK.out.mono ?_
 rintro e w2 ⟨⟨u, rfl⟩, ⟨⟨x, vs, hb, ho⟩, hbl⟩⟩
 have c0 := cell_of_row _ _ 0 _ _ _ hb
 have HO := Lib.hid ho
 have HB := Lib.hid hbl
 obtain ⟨Ax, cx, rfl, -, -⟩ := ho.out.rd.shape
 clear ho hbl hb
 go_wp2_with fail
 go_ret
 exact ⟨⟨_, vs, rfl, HO.out⟩, HB.out⟩
end Go.Proofs.YtcpkhhbbjimdaaaGreatDoor.Ce
namespace Go.Proofs.YtcpkhhbbjimdaaaGreatDoor.Ce
open Go.RowKit
structure Jn (w : World) (row col : ByteArray) (at_ : Int) (b1 b2 b3 b4 b5 : Nat) (m : Option Cl) (wr : World) : Prop where
 r1 : wr.heap[b1]? = some (.cells #[.string row] 9 (0, 0))
 r2 : wr.heap[b2]? = some (.cells #[.string col] 9 (0, 0))
 r3 : wr.heap[b3]? = some (.cells #[.int .i64 at_] 3 (0, 0))
 r4 : wr.heap[b4]? = some (.cells #[.bool m.isSome] 4 (0, 0))
 r5 : InC b5 (m.getD Cl.zero) wr
 g4 : w.heap.size ≤ b4
 g5 : w.heap.size ≤ b5
 bel : Below w.heap.size w wr
theorem two_types {w : World} {a b : Nat} {xs ys : Array Value} {t u : TypeId} (h : w.heap[a]? = some (.cells xs t (0, 0))) (k : w.heap[b]? = some (.cells ys u (0, 0))) (ht : t ≠ u) : a ≠ b := fun e => by
 subst e
 rw [h] at k
 injection k with k
 injection k with _ q _
 exact ht q
section
variable {w wr w' w2 : World} {row col : ByteArray} {at_ : Int} {b1 b2 b3 b4 b5 : Nat} {m : Option Cl} {d : Cl}
theorem Jn.up (h : Jn w row col at_ b1 b2 b3 b4 b5 m wr) (hb : Below wr.heap.size wr w') : Jn w row col at_ b1 b2 b3 b4 b5 m w' := by
 have k : ∀ {b : Nat} {o : Obj}, wr.heap[b]? = some o → w'.heap[b]? = some o := fun q => (hb.block _ (Array.getElem?_eq_some_iff.1 q).1).trans q
 exact ⟨k h.r1, k h.r2, k h.r3, k h.r4, h.r5.up hb, h.g4, h.g5, bwstep h.bel hb⟩
theorem Jn.store (h : Jn w row col at_ b1 b2 b3 b4 b5 m wr) (hs : SetC b5 d wr w2) : w2.cell? ⟨b4, 0, none⟩ = some (.bool m.isSome) ∧ w2.frozen? ⟨b4, 0, none⟩ = false ∧ Jn w row col at_ b1 b2 b3 b4 b5 (some d) (w2.setCell ⟨b4, 0, none⟩ (.bool true)) := by
 have n1 := two_types h.r1 h.r5.h (by decide)
 have n2 := two_types h.r2 h.r5.h (by decide)
 have n3 := two_types h.r3 h.r5.h (by decide)
 have n4 := two_types h.r4 h.r5.h (by decide)
 have m1 := two_types h.r1 h.r4 (by decide)
 have m2 := two_types h.r2 h.r4 (by decide)
 have m3 := two_types h.r3 h.r4 (by decide)
 have k4 := (hs.o b4 n4).trans h.r4
 have hh : ∀ k, k ≠ b4 → (w2.setCell ⟨b4, 0, none⟩ (.bool true)).heap[k]? = w2.heap[k]? := fun k hk => Below.heap_setCell _ _ _ _ hk
 refine ⟨cell_of_row _ _ 0 _ _ _ k4, frozen_of_row _ _ _ _ _ k4, ⟨?_, ?_, ?_, ?_, ⟨?_⟩, h.g4, h.g5, ?_⟩⟩
 ·rw [hh b1 m1, hs.o b1 n1]; exact h.r1
 ·rw [hh b2 m2, hs.o b2 n2]; exact h.r2
 ·rw [hh b3 m3, hs.o b3 n3]; exact h.r3
 ·unfold World.setCell
  simp [Array.getElem?_modify, k4]
 ·rw [hh b5 n4.symm]; exact hs.i.h
 ·exact (hs.bel h.bel h.g5).setCell (p := ⟨b4, 0, none⟩) h.g4 _
end
theorem newestC_any (w : World) (row col : ByteArray) (at_ : Int) (b1 b2 b3 b4 b5 : Nat) (m : Option Cl) (C : List Cl) (p : Nat) (wr : World) (hT : Tb wr [] p C) (hs : Srt C) (hl : C.length ≤ 1000000) (hrs : row.size ≤ 1000000) (hcs : col.size ≤ 1000000) (h : Jn w row col at_ b1 b2 b3 b4 b5 m wr) :
  Calls Tryz.prog 91 #[.pointer (some ⟨p, 0, none⟩), .pointer (some ⟨b1, 0, none⟩), .pointer (some ⟨b2, 0, none⟩), .pointer (some ⟨b3, 0, none⟩), .pointer (some ⟨b4, 0, none⟩), .pointer (some ⟨b5, 0, none⟩)] wr fun e w' => (∃ u, e = .returned u) ∧ Jn w row col at_ b1 b2 b3 b4 b5 (best m (newest row col at_ C)) w' := by
 obtain ⟨nn, hT⟩ := hT.tv
 have hg := tget_any 0 p nn C row col at_ wr hT hs hl hrs hcs
 unfold nwC nwB at hg
 generalize newest row col at_ C = q at *
 have c1 : wr.cell? ⟨b1, 0, none⟩ = some (.string row) := cell_of_row _ _ 0 _ _ _ h.r1
 have c2 : wr.cell? ⟨b2, 0, none⟩ = some (.string col) := cell_of_row _ _ 0 _ _ _ h.r2
 have c3 : wr.cell? ⟨b3, 0, none⟩ = some (.int .i64 at_) := cell_of_row _ _ 0 _ _ _ h.r3
 have HJ := Lib.hid h
 have HG := Lib.hid hg
 clear h hT hs hl hrs hcs hg
 go_enter Tryz.func91, Tryz.ntmps91
 go_wp2_with fail
 refine HG.out.mono ?_
 rintro e w2 ⟨rfl, hb2⟩
 have HJ2 := Lib.hid (HJ.out.up hb2)
 clear c1 c2 c3 hb2 HJ HG
 go_wp2_with (refine allocC rfl rfl ?_)
 constructor
 intro w3 hI3 hb3 hz3
 have HJ3 := Lib.hid (HJ2.out.up hb3)
 go_wp2_with (refine storeC (c := q.getD Cl.zero) rfl (.tmp 7) (.tmp 15) rfl rfl rfl hI3 ?_)
 constructor
 intro w4 hs4
 have HJ4 := Lib.hid (HJ2.out.up (hs4.bel hb3 (Nat.le_refl _)))
 have HI4 := Lib.hid hs4.i
 clear hI3 hb3 hz3 hs4 HJ2 HJ3
 cases q with
 | none =>
  go_wp2_with fail
  go_end0
  rw [best_none]
  exact ⟨⟨_, rfl⟩, HJ4.out⟩
 | some d =>
  have i2 : w4.cell? ⟨w2.heap.size, 2, none⟩ = some (.int .i64 d.at_) := HI4.out.c2
  cases m with
  | none =>
   have c4 : w4.cell? ⟨b4, 0, none⟩ = some (.bool false) := cell_of_row _ _ 0 _ _ _ HJ4.out.r4
   go_wp2_with (first | (refine loadC rfl (.tmp 7) rfl rfl HI4.out ?_) | (refine storeC (c := d) rfl (.tmp 5) (.tmp 29) rfl rfl rfl HJ4.out.r5 ?_))
   constructor
   intro w5 hs5
   obtain ⟨c5, f5, h5⟩ := HJ4.out.store hs5
   have HE := Lib.hid h5
   clear h5 hs5
   go_wp2_with fail
   go_end0
   exact ⟨⟨_, rfl⟩, HE.out⟩
  | some a =>
   have c4 : w4.cell? ⟨b4, 0, none⟩ = some (.bool true) := cell_of_row _ _ 0 _ _ _ HJ4.out.r4
   have a2 : w4.cell? ⟨b5, 2, none⟩ = some (.int .i64 a.at_) := HJ4.out.r5.c2
   by_cases hlt : a.at_ < d.at_
   ·have HBT := Lib.hid (best_lt hlt)
    go_wp2_with (first | (refine loadC rfl (.tmp 7) rfl rfl HI4.out ?_) | (refine storeC (c := d) rfl (.tmp 5) (.tmp 29) rfl rfl rfl HJ4.out.r5 ?_))
    constructor
    intro w5 hs5
    obtain ⟨c5, f5, h5⟩ := HJ4.out.store hs5
    have HE := Lib.hid h5
    clear h5 hs5
    go_wp2_with fail
    go_end0
    rw [HBT.out]
    exact ⟨⟨_, rfl⟩, HE.out⟩
   ·have HBT := Lib.hid (best_ge hlt)
    go_wp2_with fail
    go_end0
    rw [HBT.out]
    exact ⟨⟨_, rfl⟩, HJ4.out⟩
end Go.Proofs.YtcpkhhbbjimdaaaGreatDoor.Ce
