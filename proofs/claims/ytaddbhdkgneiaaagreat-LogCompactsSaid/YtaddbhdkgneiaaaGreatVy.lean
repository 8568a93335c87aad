/- Compact of a log. -/
import Derived.Test.YtaddbhdkgneiaaaGreatLmB
import Derived.Test.YtaddbhdkgneiaaaGreatDskJ
set_option maxHeartbeats 8000000
set_option maxRecDepth 100000
namespace Go.Proofs.YtaddbhdkgneiaaaGreat.Ce
open Go.RowKit Dk
theorem recs_short {g : Lg} (h : g.Ok) : (∀ r ∈ recsV g.most g.votes, r.length ≤ 65535) ∧ (Frm.flat (recsV g.most g.votes)).length ≤ 40000 := by
 have hl := h.len
 have hle := recsV_le (m := g.most) (V := g.votes) fun c hc => (h.right c hc).1
 refine ⟨fun r hr => ?_, by omega⟩
 unfold recsV at hr
 rcases List.mem_append.1 hr with hr | hr
 ·split at hr
  ·rw [List.mem_singleton.1 hr, prB_len]
   omega
  ·cases hr
 ·obtain ⟨c, hc, rfl⟩ := List.mem_map.1 hr
  exact vt_short (h.right c hc).1
theorem LDisk.fine {w : World} {B : Nat} {d : Value} {cap : Nat} {o : Option (List UInt8)} {db mb : Nat} {L : List Fr} (h : LDisk w B d cap o db mb L) : (∀ f ∈ L, f.fl.l.length ≤ 1000000000) ∧ ∀ f ∈ L, f.fl.nm.size ≤ 1000000000 := by
 have hc := h.cap_le
 have hl := h.len_le
 have key : ∀ f ∈ L, f.fl.l.length ≤ 1000000000 ∧ f.fl.nm.size ≤ 1000000000 := fun f hf => by
  have hm : f.fl ∈ filesOf o := by rw [← h.fil]; exact List.mem_map.2 ⟨f, hf, rfl⟩
  cases o with
  | none => cases hm
  | some b =>
   rw [List.mem_singleton.1 hm]
   have : (byt (some b)).length = b.length := rfl
   exact ⟨by show b.length ≤ _; omega, by show logNm.size ≤ _; decide⟩
 exact ⟨fun f hf => (key f hf).1, fun f hf => (key f hf).2⟩
def CompStep (w : World) (B : Nat) (d : Value) (cap : Nat) (o : Option (List UInt8)) (lb : Nat) (g : Lg) (S : List Nat) (e : Ending) (w' : World) : Prop :=
 ∃ E o' g', e = .returned (.int .i64 E) ∧ CompEnd cap o g E o' g' ∧ LogStep OwnL w w' B d cap S o' lb g'
theorem vcomp_any {w : World} {B : Nat} {d : Value} {cap : Nat} {o : Option (List UInt8)} {lb : Nat} {g : Lg} {S : List Nat} (h : LogAt OwnL w B d cap o lb g S) :
  Calls Tryz.prog 14 #[.pointer (some ⟨lb, 0, none⟩)] w fun e w' => CompStep w B d cap o lb g S e w' := by
 have HLA := Lib.hid h
 obtain ⟨db, mb, L, T, h1, h2, h3, h4, rfl⟩ := h
 have hg := h3.ok
 obtain ⟨hrs, hrf⟩ := recs_short hg
 obtain ⟨q, vb, Q, rfl, hSy, hpv, -⟩ := id h2
 have hrec := vrecords_any hSy hpv hg
 have HG := Lib.hid hg
 have H1 := Lib.hid h1
 have H2 := Lib.hid h2
 have H3 := Lib.hid h3
 have H4 := Lib.hid h4
 have HRF := Lib.hid hrf
 clear h1 h2 h3 h4 hSy hpv hg
 go_enter Tryz.func14, Tryz.ntmps14
 go_wp2_with fail
 refine hrec.mono ?_
 rintro e w1 ⟨⟨v, vs, rfl, hO⟩, hb1⟩
 have hall := all_any v _ w1 hO.rd hrs (by omega)
 obtain ⟨A, c, rfl, -, -⟩ := hO.rd.shape
 have HB1 := Lib.hid hb1
 clear hrec hO hb1 hrs hrf
 go_wp2_with fail
 refine hall.mono ?_
 rintro e w2 ⟨⟨x, rfl, hx⟩, hb2⟩
 have hbw2 := HB1.out.trans (hb2.mono HB1.out.size)
 have h12 := H1.out.dk.up hbw2
 have hm := vmedium_any (H2.out.up hbw2)
 have hcp := copy_any h12.at_ (by rw [h12.few]; have := filesOf_len o; omega) H1.out.fine.1 H1.out.fine.2
 have HB2 := Lib.hid hbw2
 have HX := Lib.hid hx
 obtain ⟨Ax, cx, rfl, -, -⟩ := hx.rd.shapeM
 clear hall hx hb2 hbw2 h12
 go_wp2_with fail
 refine hm.mono ?_
 rintro e w2' ⟨rfl, rfl⟩
 go_wp2_with fail
 refine hcp.mono ?_
 rintro e w3 ⟨⟨cb, cmb, Lc, rfl, hd3, hL3⟩, hb3⟩
 have hz1 := HB1.out.size
 have hz3 := hb3.size
 have hd3' : DkAt w3 w2.heap.size (.pointer (some ⟨cb, 0, none⟩)) cap (filesOf o) cb cmb Lc := ⟨hd3, by rw [hL3, H1.out.fil], H1.out.cap_le, by rw [filesOf_tot]; exact H1.out.len_le, hz3⟩
 have hx3 : RdS w3 (fp cb cmb Lc) (.slice Ax (Frm.flat (recsV g.most g.votes)).length cx) (compB g) := RdS.of_low (HX.out.rd.below hb3) hz3 hd3.ge
 have hrp := vreplace_any hd3' hx3 (by have := HRF.out; unfold compB; omega)
 have hge3 := hd3.ge
 have HB3 := Lib.hid hb3
 clear hm hcp hd3 hL3 hb3 hd3' hx3
 go_wp2_with fail
 refine hrp.mono ?_
 rintro e w4 ⟨E, o1, rfl, ⟨L4, k1, k2, k3⟩, hE⟩
 have hb24 : Below w2.heap.size w2 w4 := HB3.out.trans (k2.below hge3 hz3)
 have hbw4 := HB2.out.trans (hb24.mono HB2.out.size)
 clear hrp k1 k2 k3 hge3 hz3
 rcases hE with ⟨rfl, rfl, hf⟩ | ⟨rfl, hf, rfl⟩
 ·have HE : Hid (CompStep w B (.pointer (some ⟨q, 0, none⟩)) cap o1 lb g (T ++ fp db mb L) (.returned (.int .i64 4)) w4) := Lib.hid ⟨4, o1, g, rfl, .full hf, LogStep.stay HLA.out hbw4⟩
  clear HLA HG H1 H2 H3 H4 HX HB1 HB2 HB3 hb24 hbw4
  go_wp2_with fail
  go_ret
  exact HE.out
 ·have hm4 := vmedium_any (H2.out.up hbw4)
  have hx4 : RdS w4 (fp db mb L) (.slice Ax (Frm.flat (recsV g.most g.votes)).length cx) (compB g) := (HX.out.below hb24).rdS fun k hk => by have := H1.out.at_.lt k hk; omega
  have hrp := vreplace_any (H1.out.dk.up hbw4) hx4 (by have := HRF.out; unfold compB; omega)
  have HB4 := Lib.hid hbw4
  clear hx4 hb24 hbw4
  go_wp2_with fail
  refine hm4.mono ?_
  rintro e w4' ⟨rfl, rfl⟩
  clear hm4
  go_wp2_with fail
  refine hrp.mono ?_
  rintro e w5 ⟨E, o5, rfl, st, ⟨rfl, rfl, hf5⟩ | ⟨rfl, hf5, rfl⟩⟩
  ·omega
  ·have HE : Hid (CompStep w B (.pointer (some ⟨q, 0, none⟩)) cap o lb g (T ++ fp db mb L) (.returned (.int .i64 0)) w5) := Lib.hid ⟨0, some (compB g), compG g, rfl, .ok hf5, LogStep.disk (DkStep.after (Kp.of_below HB4.out _) (fun k hk => .inl hk) st) H2.out (compG_most HG.out) (compG_votes HG.out) (LogWf.comp HG.out) H4.out⟩
   clear HLA HG H1 H2 H3 H4 HX HB1 HB2 HB3 HB4 st hrp
   go_wp2_with fail
   go_ret
   exact HE.out
end Go.Proofs.YtaddbhdkgneiaaaGreat.Ce
