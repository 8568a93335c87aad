/- The contracts of package msg's spell and Put. -/
import Derived.Test.YtpmlfhgdhnofbaaMxC
import Derived.Test.YtpmlfhgdhnofbaaFrmA
import Derived.Test.YtpmlfhgdhnofbaaCsA
import Derived.Test.YtpmlfhgdhnofbaaLow
import Derived.Test.YtpmlfhgdhnofbaaMsT
set_option maxHeartbeats 8000000
set_option maxRecDepth 100000
namespace Go.Proofs.Ytpmlfhgdhnofbaa.Ce
open Go.RowKit
theorem run_idxM (A : Array Value) (k : Nat) (n : Int) (hk : k < 5) (h : A[k]? = some (.int .i64 n)) (w : World) : (Instr.index 55 (.agg A) (.int .i64 (k : Int))).run Try.prog w = .ok (.int .i64 n) w := by
 have hs : (Try.prog.info? 3).map (·.size) = some 1 := by kernel_rfl
 obtain ⟨i, hi, hz⟩ := Option.map_eq_some_iff.1 hs
 simp [Instr.index, run_underlying Try.underlying55, asIntOf, part, isAgg, run_underlying Try.underlying3, sizeOf, typeInfo, hi, hz, h]
 omega
theorem recT_right {c : Vt} (h : c.Right) : recT c = vtT c := by unfold recT; rw [if_pos h]
theorem recT_vote {m : Ms} (h : m.Right) : recT m.h.vote = voteT m.h := by
 unfold voteT
 by_cases hk : m.h.kind = 3
 ·rw [if_pos hk]
  exact recT_right (h.vote hk).1
 ·rw [if_neg hk, h.k3 hk]
  unfold recT
  rw [if_neg zero_not]
theorem mspell_any (x : Mx) (m : Ms) (w : World) (hx : MsIs w [] x m) (hR : m.Right) :
  Calls Try.prog 18 #[x.v] w fun e w' => ∃ v, e = .returned v ∧ Ow w' w.heap.size 5 v ((msgR m).map bv) ∧ Below w.heap.size w w' := by
 have hrv := recT_vote hR
 obtain ⟨hh, V⟩ := m
 obtain ⟨xh, xa, xn, xc⟩ := x
 obtain rfl : xh = hh := hx.h
 obtain rfl : xn = V.length := hx.len
 simp only at hrv
 have HN : Hid (∀ n ∈ msN xh, 0 ≤ n ∧ n ≤ 4294967295) := Lib.hid hR.nums
 have hVl : V.length ≤ 64 := hR.votes.len
 have HVR : Hid (∀ c ∈ V, c.Right) := Lib.hid fun c hc => (hR.votes.1 c hc).1
 have HVT : Hid ((voteT xh).size ≤ 544) := Lib.hid hR.voteT_le
 have HRL : Hid ((msgR ⟨xh, V⟩).length ≤ 40000) := Lib.hid hR.rec_le
 have HRV : Hid (∀ z, Calls Try.prog 36 #[xh.vote.v] z fun e w' => e = .returned (.string (voteT xh)) ∧ Below z.heap.size z w') := Lib.hid fun z => by
  have := mrecord_any xh.vote z
  rwa [hrv] at this
 have HAN : Hid (∀ k (hk : k < (msN xh).length), (#[Value.int .i64 xh.kind, .int .i64 xh.fr, .int .i64 xh.to_, .int .i64 xh.ballot, .int .i64 xh.slot])[k]? = some (.int .i64 (msN xh)[k])) := Lib.hid fun k hk => by
  have e : #[Value.int .i64 xh.kind, .int .i64 xh.fr, .int .i64 xh.to_, .int .i64 xh.ballot, .int .i64 xh.slot] = ((msN xh).map (fun n => Value.int .i64 n)).toArray := rfl
  rw [e]
  simp [hk]
 clear hR hrv
 go_enter Try.func18, Try.ntmps18
 go_wp2_with (refine St.box msD rfl (.tmp 0) ⟨xh, xa, V.length, xc⟩ rfl rfl ?_)
 constructor
 intro w2 hI1 hb1 hz1
 clear hz1
 obtain ⟨a0, a1, a2, a3, a4, -, -, -, -, -, -⟩ := MxAt.of hI1
 simp only at a0 a1 a2 a3 a4
 have HI2 : Hid (∀ z, Below w2.heap.size w2 z → msD.In w.heap.size ⟨xh, xa, V.length, xc⟩ z) := Lib.hid fun z hz => hI1.up hz
 have HX2 : Hid (∀ z, Below w2.heap.size w2 z → St.RdS vtL z [] (.slice xa V.length xc) V) := Lib.hid fun z hz => (show St.RdS vtL w2 [] (.slice xa V.length xc) V from (hx.bel hb1).votes).bel hz
 have HB2 := Lib.hid hb1
 clear hx hI1 hb1
 go_wp2_with fail
 generalize #[Value.int .i64 xh.kind, .int .i64 xh.fr, .int .i64 xh.to_, .int .i64 xh.ballot, .int .i64 xh.slot] = AN at *
 have hNl : (msN xh).length = 5 := rfl
 clear a0 a1 a2 a3 a4
 go_loopw [3, 20] (fun o i wr => ∃ k : Nat, k ≤ 5 ∧ i = .int .i64 k ∧ Ow wr w2.heap.size 5 o ((numsB ((msN xh).take k)).map bv) ∧ Below w2.heap.size w2 wr) (fun _ i _ => 5 - (intOf i).toNat)
 case atStart => exact ⟨0, by omega, rfl, Ow.nilB _ _ _, Below.refl _ _⟩
 case round =>
  obtain ⟨k, hk, rfl, ho, hbw⟩ := hrel
  by_cases hlt : k < 5
  ·have hcell := HAN.out k (by omega)
   have hnn := HN.out _ (List.getElem_mem (show k < (msN xh).length by omega))
   have HS := Lib.hid (numsB_snoc (msN xh) k (by omega))
   generalize (msN xh)[k]'(by omega) = n at hcell hnn HS
   have hidx := run_idxM AN k n hlt hcell
   have hol : (numsB ((msN xh).take k)).length ≤ 20 := by rw [numsB_len, List.length_take]; omega
   generalize numsB ((msN xh).take k) = F at ho HS hol
   have HO := Lib.hid ho
   have HBW := Lib.hid hbw
   have h0 := hnn.1
   have h1 := hnn.2
   clear ho hbw hnn hcell
   obtain ⟨wo, hwo⟩ : ∃ wo, wo = wr := ⟨_, rfl⟩
   subst hwo
   go_wp2_with fail
   refine (num_int n _ h0 h1).mono ?_
   rintro e w3 ⟨q, rfl, hq, hb3⟩
   have hq3 := hq.rd
   have ho3 := HO.out.below hb3
   have hb4 := bwstep HBW.out hb3
   have hs4 := hb4.size
   have z4 : F.length + (numB n.toNat).length ≤ 140737488355328 := by rw [numB_len]; omega
   clear hq hb3
   go_wp2_with (at_builtin; refine wpList_appB bytesT rfl (.tmp 23) (.tmp 25) rfl rfl ho3 rfl hq3 z4 hs4 ?_; intro v5 w5 ho5 hg5 _; have HO5 := Lib.hid ho5; have HB5 := Lib.hid (hb4.grown hg5 hs4 ho3.ge); clear ho5 hg5)
   go_roundw
   case rel => exact ⟨k + 1, by omega, by go_num, by rw [HS.out]; exact HO5.out, HB5.out⟩
   case measure => simp [intOf]; omega
  ·rw [List.take_of_length_le (show (msN xh).length ≤ k by omega)] at ho
   have hk0 : 5 ≤ k := by omega
   have aA := (MxAt.of (HI2.out _ hbw)).cA
   simp only at aA
   have HO := Lib.hid ho
   have HBW := Lib.hid hbw
   clear ho hbw hlt
   obtain ⟨wo, hwo⟩ : ∃ wo, wo = wr := ⟨_, rfl⟩
   subst hwo
   obtain ⟨p6, hp6⟩ : ∃ p6, p6 = u3 := ⟨_, rfl⟩
   subst hp6
   obtain ⟨km, hkm⟩ : ∃ km, km = k := ⟨_, rfl⟩
   subst hkm
   go_wp2_with fail
   clear aA
   go_loopw [6, 31] (fun l i wl => ∃ k : Nat, k ≤ V.length ∧ i = .int .i64 (k : Int) ∧ Ow wl wo.heap.size 9 l (((V.take k).map vtT).map sv) ∧ Below wo.heap.size wo wl) (fun _ i _ => V.length - (intOf i).toNat)
   case atStart => exact ⟨0, Nat.zero_le _, rfl, Ow.nil _ _ _, Below.refl _ _⟩
   case round =>
    obtain ⟨k, hk, rfl, hol, hbl⟩ := hrel
    have hbl2 := HBW.out.trans (hbl.mono HBW.out.size)
    by_cases hlt : k < V.length
    ·have hfk : V[k]? = some (V[k]'hlt) := List.getElem?_eq_getElem _
     have hcr := HVR.out _ (List.getElem_mem hlt)
     have HTK := Lib.hid (show ((V.take (k + 1)).map vtT).map sv = ((V.take k).map vtT).map sv ++ [sv (vtT (V[k]'hlt))] by rw [List.take_succ_eq_append_getElem hlt, List.map_append, List.map_append]; rfl)
     generalize V[k]'hlt = c at hfk hcr HTK
     have hXl := HX2.out _ hbl2
     obtain ⟨b, off, rfl, -, -⟩ := hXl.open_ (by omega)
     have hca := hXl.all vlOk hfk
     have hh3 : (0 : Int) ≤ (k : Int) := by omega
     have hh4 : (k : Int) < (V.length : Int) := by omega
     have hlen0 : (((V.take k).map vtT).map sv).length = k := by rw [List.length_map, List.length_map, List.length_take]; omega
     have hrc := fun z => mrecord_any c z
     rw [recT_right hcr] at hrc
     generalize vtT c = tc at hrc HTK
     generalize ((V.take k).map vtT).map sv = F at hol HTK hlen0
     have HOL := Lib.hid hol
     have HBL := Lib.hid hbl
     clear hol hbl hbl2 hfk hXl hcr
     go_wp2_with (first | (refine St.loadAt vlOk rfl (.tmp 33) rfl ⟨b, off + k * 5, none⟩ rfl hca ?_) | (refine St.alloc vtOk rfl rfl ?_))
     constructor
     intro wa hIa hba hza
     clear hza hca
     go_wp2_with (refine St.store vtOk (c := c) rfl (.tmp 8) (.tmp 34) rfl rfl rfl hIa ?_)
     constructor
     intro wb hsb
     have hIb := hsb.i
     have HBB := Lib.hid (hsb.bel hba (Nat.le_refl _))
     clear hsb hIa hba
     go_wp2_with (refine St.load vtOk rfl (.tmp 8) rfl rfl hIb ?_)
     refine (hrc _).mono ?_
     rintro e w6 ⟨rfl, hb6⟩
     have hb06 := bwstep HBB.out hb6
     have hol6 := HOL.out.below hb06
     have hbl6 := bwstep HBL.out hb06
     have hone : One [Value.string tc] := fun x hx => by rw [List.mem_singleton.1 hx]; rfl
     have hrd : Rd (w6.alloc (.cells #[.string tc] 9)) _ (.slice (some ⟨w6.heap.size, 0, none⟩) 1 1) [.string tc] := Rd.newW w6 9 #[.string tc] rfl (by simp [maxLen]) rfl
     have hal := bwalloc (bwrefl w6) (.cells #[.string tc] 9)
     have hol7 := hol6.below hal
     have hbl7 := bwstep hbl6 hal
     have hs7 := hbl7.size
     have l1 : F.length + [Value.string tc].length ≤ maxLen := by rw [hlen0]; simp [maxLen]; omega
     have l2 : (F.length + [Value.string tc].length) * 16 ≤ 140737488355328 := by rw [hlen0]; simp; omega
     clear hb6 hb06 hol6 hbl6 hal hlen0 hIb hrc
     go_wp2_with (at_builtin; refine wpList_app strsT rfl rfl (.tmp 35) (.tmp 38) rfl rfl hol7 rfl hrd hone l1 l2 hs7 ?_; intro v' w' ho' hg' h3'; have HO8 := Lib.hid ho'; have HB8 := Lib.hid (hbl7.grown hg' hs7 hol7.ge); clear ho' hg' h3' hrd hol7 hone hbl7)
     go_roundw
     case rel => exact ⟨k + 1, by omega, by go_num, by rw [HTK.out]; exact HO8.out, HB8.out⟩
     case measure => simp [intOf]; omega
    ·obtain rfl : k = V.length := by omega
     rw [List.take_length] at hol
     have hvv := allB_votes HVR.out
     have hle : ∀ s ∈ V.map vtT, s.size ≤ 4294967295 := fun s hs => by
      obtain ⟨c, hc, rfl⟩ := List.mem_map.1 hs
      have := (HVR.out c hc).short
      omega
     obtain ⟨Al, cl, rfl, -, -⟩ := hol.rd.shapeM
     have htx := fun z (hz : Rd z z.heap.size (.slice Al (V.map vtT).length cl) ((V.map vtT).map sv)) => texts_ok _ (V.map vtT) z hz (by rw [List.length_map]; omega) hle (by omega)
     rw [List.length_map] at htx hol ⊢
     have HTX := Lib.hid htx
     have HNE : Hid (∀ k, (Value.slice Al V.length cl).ownBlock = some k → p6.ownBlock ≠ some k) := Lib.hid fun k hk e => by
      have h1 := hol.ge k hk
      have h2 := (HO.out.lt k e).2
      omega
     have HOO := Lib.hid (HO.out.below hbl)
     have HRE := Lib.hid (show numsB (msN xh) ++ textB (voteT xh) ++ textsB (V.map vtT) = msgR ⟨xh, V⟩ by unfold msgR; rw [List.append_assoc])
     have z6 : (numsB (msN xh) ++ textB (voteT xh)).length + (textsB (V.map vtT)).length ≤ 140737488355328 := by rw [← List.length_append, HRE.out]; have := HRL.out; omega
     have hva := vote_at (HI2.out _ hbl2)
     simp only at hva
     have HBL := Lib.hid hbl2
     have HOL := Lib.hid hol
     clear hol hbl hle hvv hbl2 htx
     obtain ⟨wk, hwk⟩ : ∃ wk, wk = wr := ⟨_, rfl⟩
     subst hwk
     go_wp2_with (with_reducible (show wpList _ _ _ ({ dst := some 43, op := .load 23 (.tmp 42), type := _, pos := _, after := _, guard := _ } :: _) _ _); refine St.loadAt vtOk rfl (.tmp 42) rfl _ rfl hva ?_)
     refine (HRV.out _).mono ?_
     rintro e w3 ⟨rfl, hb3⟩
     have hvt := HVT.out
     have z5 : (numsB (msN xh)).length + (textB (voteT xh)).length ≤ 140737488355328 := by rw [numsB_len, textB_size, hNl]; omega
     clear hva
     go_wp2_with fail
     refine (text_ok (voteT xh) _ (by omega)).mono ?_
     rintro e w4 ⟨q, rfl, hq, hb4⟩
     have hb34 := bwstep hb3 hb4
     have hq4 := hq.rd
     have ho4 := HOO.out.below hb34
     have HOL4 := Lib.hid (HOL.out.below hb34)
     have hbw4 := bwstep HBL.out hb34
     have hs4 := hbw4.size
     clear hq hb3 hb4 hvt hb34
     go_wp2_with (at_builtin; refine wpList_appB bytesT rfl (.tmp 41) (.tmp 45) rfl rfl ho4 rfl hq4 z5 hs4 ?_; intro v5 w5 ho5 hg5 _; have HT5 := Lib.hid (HOL4.out.kept hg5 HNE.out); have HO5 := Lib.hid ho5; have HB5 := Lib.hid (hbw4.grown hg5 hs4 ho4.ge); clear ho5 hg5 ho4 hq4 hbw4 hs4 z5)
     refine (HTX.out _ HT5.out.rd).mono ?_
     rintro e w6 ⟨q, rfl, hq, hb6⟩
     have hq6 := hq.rd
     have ho6 := HO5.out.below hb6
     have hb7 := bwstep HB5.out hb6
     have hs7 := hb7.size
     clear hq hb6
     go_wp2_with (at_builtin; refine wpList_appB bytesT rfl (.tmp 47) (.tmp 49) rfl rfl ho6 rfl hq6 z6 hs7 ?_; intro v8 w8 ho8 hg8 _; have HO8 := Lib.hid ho8; have HB8 := Lib.hid (hb7.grown hg8 hs7 ho6.ge); clear ho8 hg8 ho6 hq6 hb7 hs7 z6)
     rw [HRE.out] at HO8
     go_ret
     exact ⟨_, rfl, HO8.out.mono HB2.out.size, HB2.out.trans (HB8.out.mono HB2.out.size)⟩
theorem mput_yes (x : Mx) (m : Ms) (w : World) (hx : MsIs w [] x m) (hR : m.Right) :
  Calls Try.prog 9 #[x.v] w fun e w' => ∃ v, e = .returned (.tuple #[v, .int .i64 0]) ∧ Ow w' w.heap.size 5 v ((msB m).map bv) ∧ Below w.heap.size w w' := by
 have HL : Hid (m.votes.length ≤ 64) := Lib.hid hR.votes.len
 have hr := fun z hz => mright_any x m z (hx.bel hz) (by have := HL.out; omega)
 rw [decide_eq_true hR] at hr
 have hs := fun z hz => mspell_any x m z (hx.bel hz) hR
 have HRL : Hid ((msgR m).length ≤ 40000) := Lib.hid hR.rec_le
 have hB : Hid ((msB m).length = 12 + (msgR m).length) := Lib.hid msB_len
 clear hR hx
 go_enter Try.func9, Try.ntmps9
 go_wp2_with (refine St.box msD rfl (.tmp 0) x rfl rfl ?_)
 constructor
 intro w1 hI1 hb1 hz1
 clear hz1
 go_wp2_with (refine St.load msOk rfl (.tmp 1) rfl rfl hI1 ?_)
 refine (hr _ hb1).mono ?_
 rintro e w2 ⟨rfl, hb2⟩
 have hI2 := hI1.up hb2
 have hw2 := bwstep hb1 hb2
 clear hI1 hb1 hb2 hr
 go_wp2_with (refine St.load msOk rfl (.tmp 1) rfl rfl hI2 ?_)
 refine (hs _ hw2).mono ?_
 rintro e w3 ⟨v3, rfl, ho3, hb3⟩
 have hw3 := bwstep hw2 hb3
 have hr3 := ho3.rd
 clear hI2 hs hw2 hb3 ho3
 go_wp2_with fail
 refine (fput_ok _ (msgR m) _ hr3 (by have := HRL.out; omega)).mono ?_
 rintro e w4 ⟨⟨v4, rfl, ho4⟩, hb4⟩
 have ho5 := ho4.mono hw3.size
 have hw4 := bwstep hw3 hb4
 obtain ⟨A4, c4, rfl, -, -⟩ := ho4.rd.shapeM
 rw [show (Frm.frm (msgR m)).length = 12 + (msgR m).length from Frm.frm_len _] at ho5 ⊢
 have HO := Lib.hid ho5
 generalize (msgR m).length = n at *
 have hn0 : (((12 + n : Nat) : Int) == 0) = false := by rw [beq_eq_false_iff_ne]; omega
 clear ho4 ho5 hr3 hw3 hb4
 go_wp2_with fail
 go_ret2
 exact ⟨_, rfl, HO.out, hw4⟩
theorem mput_not (x : Mx) (m : Ms) (w : World) (hx : MsIs w [] x m) (hl : m.votes.length ≤ 1000000) (hR : ¬ m.Right) :
  Calls Try.prog 9 #[x.v] w fun e w' => ∃ A cp, e = .returned (.tuple #[.slice A 0 cp, .int .i64 1]) ∧ Below w.heap.size w w' := by
 have hr := fun z hz => mright_any x m z (hx.bel hz) hl
 rw [decide_eq_false hR] at hr
 clear hR hx
 go_enter Try.func9, Try.ntmps9
 go_wp2_with (refine St.box msD rfl (.tmp 0) x rfl rfl ?_)
 constructor
 intro w1 hI1 hb1 hz1
 clear hz1
 go_wp2_with (refine St.load msOk rfl (.tmp 1) rfl rfl hI1 ?_)
 refine (hr _ hb1).mono ?_
 rintro e w2 ⟨rfl, hb2⟩
 have hw2 := bwstep hb1 hb2
 clear hI1 hb1 hb2 hr
 go_wp2_with fail
 go_ret2
 exact ⟨_, _, rfl, hw2⟩
end Go.Proofs.Ytpmlfhgdhnofbaa.Ce
