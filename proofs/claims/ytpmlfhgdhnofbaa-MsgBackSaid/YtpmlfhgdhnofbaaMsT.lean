/- The reference's Put of layer 19. -/
import Derived.Test.YtpmlfhgdhnofbaaMsP
import Derived.Test.YtpmlfhgdhnofbaaVoG
import Derived.Test.YtpmlfhgdhnofbaaFrmRQ
import Derived.Test.YtpmlfhgdhnofbaaCsA
set_option maxHeartbeats 8000000
set_option maxRecDepth 100000
namespace Go.Proofs.Ytpmlfhgdhnofbaa.Ce
open Go.RowKit
theorem strsT : ET Try.prog 49 9 (.string ⟨#[]⟩) 16 := ⟨Try.underlying49, by kernel_rfl⟩
theorem allB_votes {V : List Vt} (h : ∀ c ∈ V, c.Right) : (allB (V.map vtT)).length ≤ 548 * V.length := by
 have := sumS_votes h
 rw [allB_len, List.length_map]
 omega
theorem rput19_any (x : Mx) (m : Ms) (w : World) (hx : MsIs w [] x m) (hR : m.Right) :
  Calls Try.prog 15 #[x.v] w fun e w' => ∃ v, e = .returned v ∧ Ow w' w.heap.size 5 v ((msB m).map bv) ∧ Below w.heap.size w w' := by
 obtain ⟨hh, V⟩ := m
 obtain ⟨xh, xa, xn, xc⟩ := x
 obtain rfl : xh = hh := hx.h
 obtain rfl : xn = V.length := hx.len
 have HN : Hid (∀ n ∈ msN xh, 0 ≤ n ∧ n ≤ 4294967295) := Lib.hid hR.nums
 have hVl : V.length ≤ 64 := hR.votes.len
 have HVR : Hid (∀ c ∈ V, c.Right) := Lib.hid fun c hc => (hR.votes.1 c hc).1
 have HVT : Hid ((voteT xh).size ≤ 544) := Lib.hid hR.voteT_le
 have HRL : Hid ((msgR ⟨xh, V⟩).length ≤ 40000) := Lib.hid hR.rec_le
 have HV3 : Hid (xh.kind = 3 → xh.vote.Right) := Lib.hid fun e => (hR.vote e).1
 have HN5 : Hid (msN xh = [xh.kind, xh.fr, xh.to_, xh.ballot, xh.slot]) := Lib.hid rfl
 clear hR
 go_enter Try.func15, Try.ntmps15
 go_wp2_with (refine St.box msD rfl (.tmp 0) ⟨xh, xa, V.length, xc⟩ rfl rfl ?_)
 constructor
 intro w1 hI1 hb1 hz1
 clear hz1
 obtain ⟨a0, a1, a2, a3, a4, -, -, -, -, -, -⟩ := MxAt.of hI1
 simp only at a0 a1 a2 a3 a4
 have HI1 := Lib.hid hI1
 have HX := Lib.hid (show St.RdS vtL w1 [] (.slice xa V.length xc) V from (hx.bel hb1).votes)
 have hb := hb1
 clear hx hI1 hb1
 go_wp2_with fail
 have hNr := Rd.newW (xs := [xh.kind, xh.fr, xh.to_, xh.ballot, xh.slot].map ivC) w1 3 #[.int .i64 xh.kind, .int .i64 xh.fr, .int .i64 xh.to_, .int .i64 xh.ballot, .int .i64 xh.slot] rfl (by simp [maxLen]) rfl
 have hb2 := bwalloc hb (.cells #[.int .i64 xh.kind, .int .i64 xh.fr, .int .i64 xh.to_, .int .i64 xh.ballot, .int .i64 xh.slot] 3)
 have hb12 := bwalloc (bwrefl w1) (.cells #[.int .i64 xh.kind, .int .i64 xh.fr, .int .i64 xh.to_, .int .i64 xh.ballot, .int .i64 xh.slot] 3)
 rw [← HN5.out] at hNr
 generalize (w1.alloc (.cells #[.int .i64 xh.kind, .int .i64 xh.fr, .int .i64 xh.to_, .int .i64 xh.ballot, .int .i64 xh.slot] 3)) = w2 at hNr hb2 hb12 ⊢
 have hNl : (msN xh).length = 5 := rfl
 obtain ⟨bN, oN, eN, hbN, hcN⟩ := hNr.cellM (by omega)
 simp only [Option.some.injEq, Addr.mk.injEq, and_true] at eN
 obtain ⟨rfl, rfl⟩ := eN
 have HCN : Hid (∀ z, Below w2.heap.size w2 z → ∀ k (hk : k < (msN xh).length), z.cell? ⟨w1.heap.size, k, none⟩ = some (.int .i64 (msN xh)[k])) := Lib.hid fun z hz k hk => (hz.cell (by exact hbN)).trans (by have := hcN k hk; rwa [Nat.zero_add] at this)
 have HI2 : Hid (∀ z, Below w2.heap.size w2 z → msD.In w.heap.size ⟨xh, xa, V.length, xc⟩ z) := Lib.hid fun z hz => (HI1.out.up hb12).up hz
 have HX2 : Hid (∀ z, Below w2.heap.size w2 z → St.RdS vtL z [] (.slice xa V.length xc) V) := Lib.hid fun z hz => (HX.out.bel hb12).bel hz
 have HB2 := Lib.hid hb2
 clear hNr hb2 hcN hbN a0 a1 a2 a3 a4 HN5 hb hb12 HI1 HX
 go_loopw [4, 5] (fun o i wr => ∃ k : Nat, k ≤ 5 ∧ i = .int .i64 k ∧ Ow wr w2.heap.size 5 o ((numsB ((msN xh).take k)).map bv) ∧ Below w2.heap.size w2 wr) (fun _ i _ => 5 - (intOf i).toNat)
 case atStart => exact ⟨0, by omega, rfl, Ow.nilB _ _ _, Below.refl _ _⟩
 case round =>
  obtain ⟨k, hk, rfl, ho, hbw⟩ := hrel
  by_cases hlt : k < 5
  ·have hcell := HCN.out wr hbw k (by omega)
   have hnn := HN.out _ (List.getElem_mem (show k < (msN xh).length by omega))
   have HS := Lib.hid (numsB_snoc (msN xh) k (by omega))
   generalize (msN xh)[k]'(by omega) = n at hcell hnn HS
   have hol : (numsB ((msN xh).take k)).length ≤ 20 := by rw [numsB_len, List.length_take]; omega
   generalize numsB ((msN xh).take k) = F at ho HS hol
   have HO := Lib.hid ho
   have HBW := Lib.hid hbw
   have h0 := hnn.1
   have h1 := hnn.2
   clear ho hbw hnn
   obtain ⟨wo, hwo⟩ : ∃ wo, wo = wr := ⟨_, rfl⟩
   subst hwo
   go_wp2_with fail
   refine (rnum_int n _ h0 h1).mono ?_
   rintro e w3 ⟨q, rfl, hq, hb3⟩
   have hq3 := hq.rd
   have ho3 := HO.out.below hb3
   have hb4 := bwstep HBW.out hb3
   have hs4 := hb4.size
   have z4 : F.length + (numB n.toNat).length ≤ 140737488355328 := by rw [numB_len]; omega
   clear hq hb3
   go_wp2_with (at_builtin; refine wpList_appB bytesT rfl (.tmp 24) (.tmp 29) rfl rfl ho3 rfl hq3 z4 hs4 ?_; intro v5 w5 ho5 hg5 _; have HO5 := Lib.hid ho5; have HB5 := Lib.hid (hb4.grown hg5 hs4 ho3.ge); clear ho5 hg5)
   go_roundw
   case rel => exact ⟨k + 1, by omega, by go_num, by rw [HS.out]; exact HO5.out, HB5.out⟩
   case measure => simp [intOf]; omega
  ·rw [List.take_of_length_le (show (msN xh).length ≤ k by omega)] at ho
   have hk0 : 5 ≤ k := by omega
   have hIr := HI2.out _ hbw
   have a0 := (MxAt.of hIr).c0
   simp only at a0
   have hva := vote_at hIr
   simp only at hva
   have HO := Lib.hid ho
   have HBW := Lib.hid hbw
   clear ho hbw hlt hIr
   go_upto_if 33 with fail
   go_cut [6] (fun v wx => v = .string (voteT xh) ∧ Below wr.heap.size wr wx)
   case first =>
    by_cases hk3 : xh.kind = 3
    ·have HV := Lib.hid (show (⟨(vtB xh.vote).toArray⟩ : ByteArray) = voteT xh by unfold voteT; rw [if_pos hk3]; rfl)
     have hv := HV3.out hk3
     go_wp2_with (with_reducible (show wpList _ _ _ ({ dst := some 35, op := .load 23 (.tmp 34), type := _, pos := _, after := _, guard := _ } :: _) _ _); refine St.loadAt vtOk rfl (.tmp 34) rfl _ rfl hva ?_)
     refine (rput17_ok _ _ hv).mono ?_
     rintro e w3 ⟨q, rfl, hq, hb3⟩
     have hcv := run_str (P := Try.prog) Try.underlying29 Try.underlying5 Try.underlying9 hq.rd
     rw [HV.out] at hcv
     clear hq hva a0
     go_wp2_with fail
     go_meet
     case rel => exact ⟨rfl, hb3⟩
    ·have HV := Lib.hid (show (⟨#[]⟩ : ByteArray) = voteT xh by unfold voteT; rw [if_neg hk3])
     clear hva
     go_wp2_with fail
     go_meet
     case rel => exact ⟨congrArg Value.string HV.out, Below.refl _ _⟩
   case rest =>
    obtain ⟨rfl, hbc⟩ := hcut
    have hoc := HO.out.below hbc
    have hbw := bwstep HBW.out hbc
    have hvt := HVT.out
    have z5 : (numsB (msN xh)).length + (textB (voteT xh)).length ≤ 140737488355328 := by rw [numsB_len, textB_size, hNl]; omega
    clear HO HBW hbc hva a0
    go_wp2_with fail
    refine (rtext_ok (voteT xh) _ (by omega)).mono ?_
    rintro e w3 ⟨q, rfl, hq, hb3⟩
    have hq3 := hq.rd
    have ho3 := hoc.below hb3
    have hb4 := bwstep hbw hb3
    have hs4 := hb4.size
    clear hq hb3 hoc hbw hvt
    go_wp2_with (at_builtin; refine wpList_appB bytesT rfl (.tmp 38) (.tmp 40) rfl rfl ho3 rfl hq3 z5 hs4 ?_; intro v5 w5 ho5 hg5 _; have HO5 := Lib.hid ho5; have HB5 := Lib.hid (hb4.grown hg5 hs4 ho3.ge); clear ho5 hg5 ho3 hq3 hb4 hs4 z5)
    go_loopw [7, 8] (fun l i wl => ∃ k : Nat, k ≤ V.length ∧ i = .int .i64 (k : Int) ∧ Ow wl w5.heap.size 9 l (((V.take k).map vtT).map sv) ∧ Below w5.heap.size w5 wl) (fun _ i _ => V.length - (intOf i).toNat)
    case atStart => exact ⟨0, Nat.zero_le _, rfl, Ow.nil _ _ _, Below.refl _ _⟩
    case round =>
     obtain ⟨k, hk, rfl, hol, hbl⟩ := hrel
     have hbl2 := HB5.out.trans (hbl.mono HB5.out.size)
     have aA := (MxAt.of (HI2.out _ hbl2)).cA
     simp only at aA
     by_cases hlt : k < V.length
     ·have hfk : V[k]? = some (V[k]'hlt) := List.getElem?_eq_getElem _
      have hcr := HVR.out _ (List.getElem_mem hlt)
      have HTK := Lib.hid (show ((V.take (k + 1)).map vtT).map sv = ((V.take k).map vtT).map sv ++ [sv (vtT (V[k]'hlt))] by rw [List.take_succ_eq_append_getElem hlt, List.map_append, List.map_append]; rfl)
      generalize V[k]'hlt = c at hfk hcr HTK
      have hXl := HX2.out _ hbl2
      obtain ⟨b, off, rfl, -, -⟩ := hXl.open_ (by omega)
      have hca := hXl.all vlOk hfk
      have hh3 : (0 : Int) ≤ (k : Int) := by omega
      have hh4 : (k : Int) < (V.length : Int) := by omega
      have hlen0 : (((V.take k).map vtT).map sv).length = k := by rw [List.length_map, List.length_map, List.length_take]; omega
      generalize ((V.take k).map vtT).map sv = F at hol HTK hlen0
      have HOL := Lib.hid hol
      have HBL := Lib.hid hbl
      clear hol hbl hbl2 hfk hXl
      go_wp2_with (with_reducible (show wpList _ _ _ ({ dst := some 54, op := .load 23 (.tmp 53), type := _, pos := _, after := _, guard := _ } :: _) _ _); refine St.loadAt vlOk rfl (.tmp 53) rfl ⟨b, off + k * 5, none⟩ rfl hca ?_)
      refine (rput17_ok c _ hcr).mono ?_
      rintro e w6 ⟨q, rfl, hq, hb6⟩
      have hcv : (convert 29 9 q).run Try.prog w6 = .ok (.string (vtT c)) w6 := run_str (P := Try.prog) Try.underlying29 Try.underlying5 Try.underlying9 hq.rd
      have hol6 := HOL.out.below hb6
      have hbl6 := bwstep HBL.out hb6
      have hone : One [Value.string (vtT c)] := fun x hx => by rw [List.mem_singleton.1 hx]; rfl
      have hrd : Rd (w6.alloc (.cells #[.string (vtT c)] 9)) _ (.slice (some ⟨w6.heap.size, 0, none⟩) 1 1) [.string (vtT c)] := Rd.newW w6 9 #[.string (vtT c)] rfl (by simp [maxLen]) rfl
      have hal := bwalloc (bwrefl w6) (.cells #[.string (vtT c)] 9)
      have hol7 := hol6.below hal
      have hbl7 := bwstep hbl6 hal
      have hs7 := hbl7.size
      have l1 : F.length + [Value.string (vtT c)].length ≤ maxLen := by rw [hlen0]; simp [maxLen]; omega
      have l2 : (F.length + [Value.string (vtT c)].length) * 16 ≤ 140737488355328 := by rw [hlen0]; simp; omega
      clear hq hb6 hca hol6 hbl6 hal aA hlen0
      go_wp2_with (at_builtin; refine wpList_app strsT rfl rfl (.tmp 49) (.tmp 57) rfl rfl hol7 rfl hrd hone l1 l2 hs7 ?_; intro v' w' ho' hg' h3'; have HO8 := Lib.hid ho'; have HB8 := Lib.hid (hbl7.grown hg' hs7 hol7.ge); clear ho' hg' h3' hrd hol7 hone hbl7)
      go_roundw
      case rel => exact ⟨k + 1, by omega, by go_num, by rw [HTK.out]; exact HO8.out, HB8.out⟩
      case measure => simp [intOf]; omega
     ·obtain rfl : k = V.length := by omega
      rw [List.take_length] at hol
      have hvv := allB_votes HVR.out
      have hle : ∀ s ∈ V.map vtT, s.size ≤ 4294967295 := fun s hs => by
       obtain ⟨c, hc, rfl⟩ := List.mem_map.1 hs
       have := (HVR.out c hc).short
       omega
      have htx := rtexts_ok _ (V.map vtT) _ hol.rd (by rw [List.length_map]; omega) hle (by omega)
      obtain ⟨Al, cl, rfl, -, -⟩ := hol.rd.shapeM
      rw [List.length_map] at htx ⊢
      have hoo := HO5.out.below hbl
      have HRE := Lib.hid (show numsB (msN xh) ++ textB (voteT xh) ++ textsB (V.map vtT) = msgR ⟨xh, V⟩ by unfold msgR; rw [List.append_assoc])
      have z6 : (numsB (msN xh) ++ textB (voteT xh)).length + (textsB (V.map vtT)).length ≤ 140737488355328 := by rw [← List.length_append, HRE.out]; have := HRL.out; omega
      have HBL := Lib.hid hbl2
      clear hol hbl hle hvv hbl2
      go_wp2_with fail
      refine htx.mono ?_
      rintro e w6 ⟨q, rfl, hq, hb6⟩
      have hq6 := hq.rd
      have ho6 := hoo.below hb6
      have hb7 := bwstep HBL.out hb6
      have hs7 := hb7.size
      clear hq hb6 hoo htx aA
      go_wp2_with (at_builtin; refine wpList_appB bytesT rfl (.tmp 59) (.tmp 61) rfl rfl ho6 rfl hq6 z6 hs7 ?_; intro v8 w8 ho8 hg8 _; have HO8 := Lib.hid ho8; have HB8 := Lib.hid (hb7.grown hg8 hs7 ho6.ge); clear ho8 hg8 ho6 hq6 hb7 hs7 z6)
      rw [HRE.out] at HO8
      refine (rfput_ok _ _ _ HO8.out.rd (by have := HRL.out; omega)).mono ?_
      rintro e w9 ⟨⟨y, rfl, hy⟩, hb9⟩
      have hB8 := HB2.out.trans (HB8.out.mono HB2.out.size)
      have hyo := hy.mono hB8.size
      have hw9 := hB8.trans (hb9.mono hB8.size)
      clear hy hb9 hB8
      go_wp2_with fail
      go_ret
      exact ⟨_, rfl, hyo, hw9⟩
end Go.Proofs.Ytpmlfhgdhnofbaa.Ce
