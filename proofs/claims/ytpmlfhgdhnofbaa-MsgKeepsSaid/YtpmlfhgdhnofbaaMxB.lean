/- The contracts of package msg's small ones: replica, ballot, told, record, vote. -/
import Derived.Test.YtpmlfhgdhnofbaaMxA
set_option maxHeartbeats 8000000
set_option maxRecDepth 100000
namespace Go.Proofs.Ytpmlfhgdhnofbaa.Ce
open Go.RowKit
noncomputable instance (b : Int) (V : List Vt) : Decidable (VotesOk b V) := Classical.propDecidable _
theorem mreplica_any (n : Int) (w : World) : Calls Try.prog 19 #[.int .i64 n] w fun e w' => e = .returned (.bool (decide (0 ≤ n ∧ n ≤ 6))) ∧ w = w' := by
 by_cases h1 : (0 : Int) ≤ n
 ·by_cases h2 : n < 7
  ·rw [decide_eq_true (show 0 ≤ n ∧ n ≤ 6 by omega)]
   go_enter Try.func19, Try.ntmps19
   go_wp2_with fail
   go_ret
   exact ⟨rfl, rfl⟩
  ·rw [decide_eq_false (show ¬ (0 ≤ n ∧ n ≤ 6) by omega)]
   go_enter Try.func19, Try.ntmps19
   go_wp2_with fail
   go_ret
   exact ⟨rfl, rfl⟩
 ·rw [decide_eq_false (show ¬ (0 ≤ n ∧ n ≤ 6) by omega)]
  go_enter Try.func19, Try.ntmps19
  go_wp2_with fail
  go_ret
  exact ⟨rfl, rfl⟩
theorem mballot_any (b : Int) (w : World) : Calls Try.prog 20 #[.int .i64 b] w fun e w' => e = .returned (.bool (decide (1 ≤ b ∧ b ≤ 2147483647))) ∧ w = w' := by
 by_cases h1 : (1 : Int) ≤ b
 ·by_cases h2 : b ≤ 2147483647
  ·rw [decide_eq_true (show 1 ≤ b ∧ b ≤ 2147483647 from ⟨h1, h2⟩)]
   go_enter Try.func20, Try.ntmps20
   go_wp2_with fail
   go_ret
   exact ⟨rfl, rfl⟩
  ·rw [decide_eq_false (show ¬ (1 ≤ b ∧ b ≤ 2147483647) by omega)]
   go_enter Try.func20, Try.ntmps20
   go_wp2_with fail
   go_ret
   exact ⟨rfl, rfl⟩
 ·rw [decide_eq_false (show ¬ (1 ≤ b ∧ b ≤ 2147483647) by omega)]
  go_enter Try.func20, Try.ntmps20
  go_wp2_with fail
  go_ret
  exact ⟨rfl, rfl⟩
def ToldTo (b : Int) (W : List Vt) (y : Int) : Prop := VotesOk b W ∧ ∀ c : Vt, c.Right → ((∀ d ∈ W, d.slot < c.slot) ↔ y < c.slot)
theorem ToldTo.start (b : Int) : ToldTo b [] (-1) := ⟨⟨fun c hc => by (cases hc), List.Pairwise.nil⟩, fun c hc => ⟨fun _ => by have := hc.1; omega, fun _ d hd => by (cases hd)⟩⟩
theorem ToldTo.next {b y : Int} {W : List Vt} {c : Vt} (h : ToldTo b W y) (hr : c.Right) (hy : y < c.slot) (hb : c.ballot < b) : ToldTo b (W ++ [c]) c.slot := by
 have hlt := (h.2 c hr).2 hy
 refine ⟨⟨fun d hd => ?_, ?_⟩, fun d hd => ⟨fun k => k c (by simp), fun k e he => ?_⟩⟩
 ·rcases List.mem_append.1 hd with hd | hd
  ·exact h.1.1 d hd
  ·rw [List.mem_singleton.1 hd]
   exact ⟨hr, hb⟩
 ·refine List.pairwise_append.2 ⟨h.1.2, List.pairwise_singleton _ _, fun d hd e he => ?_⟩
  rw [List.mem_singleton.1 he]
  exact hlt d hd
 ·rcases List.mem_append.1 he with he | he
  ·have := hlt e he
   omega
  ·rw [List.mem_singleton.1 he]
   exact k
theorem ToldTo.not {b y : Int} {V : List Vt} {k : Nat} {c : Vt} (h : ToldTo b (V.take k) y) (hc : V[k]? = some c) (hn : ¬ (c.Right ∧ y < c.slot ∧ c.ballot < b)) : ¬ VotesOk b V := fun hv => by
 have hlt := (List.getElem?_eq_some_iff.1 hc).1
 have he := (List.getElem?_eq_some_iff.1 hc).2
 have hm : c ∈ V := List.mem_of_getElem? hc
 obtain ⟨hr, hb⟩ := hv.1 c hm
 refine hn ⟨hr, (h.2 c hr).1 fun d hd => ?_, hb⟩
 have hs : V = V.take k ++ (c :: V.drop (k + 1)) := by
  rw [← he, ← List.drop_eq_getElem_cons hlt, List.take_append_drop]
 have hp : SrtV V := hv.2
 rw [hs] at hp
 exact (List.pairwise_append.1 hp).2.2 d hd c (by simp)
theorem mtold_any (v : Value) (V : List Vt) (b : Int) (w : World) (hv : St.RdS vtL w [] v V) (hl : V.length ≤ 1000000) :
  Calls Try.prog 39 #[v, .int .i64 b] w fun e w' => e = .returned (.bool (decide (VotesOk b V))) ∧ Below w.heap.size w w' := by
 obtain ⟨A, cp, rfl, hc, hm⟩ := hv.shape
 unfold maxLen at hm
 have HV := Lib.hid hv
 clear hv
 go_enter Try.func39, Try.ntmps39
 go_wp2_with fail
 go_loopw [5, 10] (fun y i wr => ∃ (k : Nat) (n : Int), k ≤ V.length ∧ i = .int .i64 (k : Int) ∧ y = .int .i64 n ∧ Hid (ToldTo b (V.take k) n) ∧ Below w.heap.size w wr) (fun _ i _ => V.length - (intOf i).toNat)
 case atStart => exact ⟨0, -1, by omega, rfl, rfl, Lib.hid (ToldTo.start b), Below.refl _ _⟩
 case round =>
  obtain ⟨k, n, hk, rfl, rfl, HT, hbw⟩ := hrel
  by_cases hlt : k < V.length
  ·have hfk : V[k]? = some (V[k]'hlt) := List.getElem?_eq_getElem _
   have HTK := Lib.hid (show V.take (k + 1) = V.take k ++ [V[k]'hlt] from List.take_succ_eq_append_getElem hlt)
   generalize V[k]'hlt = c at hfk HTK
   have HNO := Lib.hid fun h => decide_eq_false (HT.out.not hfk h)
   have hXl := HV.out.bel hbw
   obtain ⟨bb, off, rfl, -, -⟩ := hXl.open_ (by omega)
   have hca := hXl.all vlOk hfk
   have hh3 : (0 : Int) ≤ (k : Int) := by omega
   have hh4 : (k : Int) < (V.length : Int) := by omega
   have HBW := Lib.hid hbw
   clear hfk hXl hbw
   go_wp2_with (first | (refine St.loadAt vlOk rfl (.tmp 12) rfl ⟨bb, off + k * 5, none⟩ rfl hca ?_) | (refine St.alloc vtOk rfl rfl ?_))
   constructor
   intro w1 hI1 hb1 hz1
   clear hz1 hca
   go_wp2_with (refine St.store vtOk (c := c) rfl (.tmp 7) (.tmp 13) rfl rfl rfl hI1 ?_)
   constructor
   intro w2 hs2
   have hI2 := hs2.i
   have HB2 := Lib.hid (bwtrans HBW.out (hs2.bel hb1 (Nat.le_refl _)) (Nat.le_refl _))
   clear hs2 hI1 hb1
   go_wp2_with (refine St.load vtOk rfl (.tmp 7) rfl rfl hI2 ?_)
   have hr := sright_any c w2
   by_cases h1 : c.Right
   ·rw [decide_eq_true h1] at hr
    refine hr.mono ?_
    rintro e w3 ⟨rfl, hb3⟩
    have hI3 := hI2.up hb3
    have c0 := (VtAt.of hI3).c0
    have c1 := (VtAt.of hI3).c1
    have HB3 := Lib.hid (bwstep HB2.out hb3)
    clear hI2 hI3 hb3 hr
    by_cases h2 : c.slot ≤ n
    ·have HD := Lib.hid (HNO.out fun h => by omega)
     clear HNO HTK HT c1
     go_wp2_with fail
     go_ret
     exact ⟨ret1 (vb HD.out.symm), HB3.out⟩
    ·by_cases h3 : b ≤ c.ballot
     ·have HD := Lib.hid (HNO.out fun h => by omega)
      clear HNO HTK HT
      go_wp2_with fail
      go_ret
      exact ⟨ret1 (vb HD.out.symm), HB3.out⟩
     ·have HN := Lib.hid (HT.out.next h1 (by omega) (by omega))
      rw [← HTK.out] at HN
      clear HNO HT h1
      go_wp2_with fail
      go_roundw
      case rel => exact ⟨k + 1, c.slot, by omega, by go_num, rfl, HN, HB3.out⟩
      case measure => simp [intOf]; omega
   ·rw [decide_eq_false h1] at hr
    have HD := Lib.hid (HNO.out fun h => h1 h.1)
    refine hr.mono ?_
    rintro e w3 ⟨rfl, hb3⟩
    have HB3 := Lib.hid (bwstep HB2.out hb3)
    clear hI2 hb3 hr HNO HTK HT h1
    go_wp2_with fail
    go_ret
    exact ⟨ret1 (vb HD.out.symm), HB3.out⟩
  ·obtain rfl : k = V.length := by omega
   rw [List.take_length] at HT
   have HD := Lib.hid (decide_eq_true HT.out.1)
   clear HT hlt
   go_wp2_with fail
   go_ret
   exact ⟨ret1 (vb HD.out.symm), hbw⟩
noncomputable def recT (c : Vt) : ByteArray := @ite _ c.Right (Classical.propDecidable _) (vtT c) ⟨#[]⟩
theorem sput_none (c : Vt) (w : World) (h : ¬ c.Right) : Calls Try.prog 48 #[c.v] w fun e w' => e = .returned (.tuple #[.slice none 0 0, .int .i64 1]) ∧ Below w.heap.size w w' := by
 have hr := fun w => sright_any c w
 rw [decide_eq_false h] at hr
 clear h
 go_enter Try.func48, Try.ntmps48
 go_wp2_with (refine St.box vtD rfl (.tmp 0) c rfl rfl ?_)
 constructor
 intro w1 hI1 hb1 hz1
 go_wp2_with (refine St.load vtOk rfl (.tmp 1) rfl rfl hI1 ?_)
 refine (hr _).mono ?_
 rintro e w2 ⟨rfl, hb2⟩
 have hw2 := bwstep hb1 hb2
 clear hI1 hb1 hb2 hr hz1
 go_wp2_with fail
 go_ret2
 exact ⟨rfl, hw2⟩
theorem mrecord_any (c : Vt) (w : World) : Calls Try.prog 36 #[c.v] w fun e w' => e = .returned (.string (recT c)) ∧ Below w.heap.size w w' := by
 have hp : ∀ z : World, Calls Try.prog 48 #[c.v] z fun e w' => ∃ (v : Value) (E : Int), e = .returned (.tuple #[v, .int .i64 E]) ∧ Rd w' w'.heap.size v (((recT c).data.toList).map bv) ∧ Below z.heap.size z w' := by
  intro z
  by_cases h : c.Right
  ·refine (sput_yes c z h).mono ?_
   rintro e w' ⟨v, rfl, ho, hb⟩
   exact ⟨v, 0, rfl, by unfold recT; rw [if_pos h]; exact ho.rd, hb⟩
  ·refine (sput_none c z h).mono ?_
   rintro e w' ⟨rfl, hb⟩
   exact ⟨_, 1, rfl, by unfold recT; rw [if_neg h]; exact Rd.nil _ _, hb⟩
 generalize recT c = t at hp
 go_enter Try.func36, Try.ntmps36
 go_wp2_with (refine St.box vtD rfl (.tmp 0) c rfl rfl ?_)
 constructor
 intro w1 hI1 hb1 hz1
 clear hz1
 go_wp2_with (refine St.load vtOk rfl (.tmp 1) rfl rfl hI1 ?_)
 refine (hp _).mono ?_
 rintro e w2 ⟨v, E, rfl, hr, hb2⟩
 have hw2 := bwstep hb1 hb2
 have hcv := run_str (P := Try.prog) Try.underlying29 Try.underlying5 Try.underlying9 hr
 clear hr hI1 hb1 hb2 hp
 go_wp2_with fail
 go_ret
 exact ⟨rfl, hw2⟩
theorem msg_vote (x : Mx) (c : Vt) : St.cpd (msD.f x) 5 (vtD.f c).toList = msD.f { x with h := { x.h with vote := c } } := rfl
theorem setVote {g : Nat} {x : Mx} {c : Vt} {w w' : World} (h : St.Turned msD.t g (St.cpd (msD.f x) 5 (vtD.f c).toList) w w') : msD.Set g { x with h := { x.h with vote := c } } w w' := by
 rw [msg_vote] at h
 exact ⟨⟨h.i⟩, h.b, h.z, h.o⟩
end Go.Proofs.Ytpmlfhgdhnofbaa.Ce
