/- The contract of Open of package table. -/
import Derived.Test.YtdemdmingelamaaTox
import Derived.Test.YtdemdmingelamaaTcs
import Derived.Test.YtdemdmingelamaaTrd
import Derived.Test.YtdemdmingelamaaTcl
import Derived.Test.YtdemdmingelamaaTbu
namespace Go.Proofs.Ytdemdmingelamaa.Ce
open Go.RowKit Frm

/-- block b is a table of the call's own, its cells S, cut into n blocks -/
structure TblV (w : World) (n0 b : Nat) (S : List Cl) (n : Nat) : Prop where
  ex : ∃ (vc : Value) (fb fn fc : Nat), w.heap[b]? = some (.cells #[vc, .slice (some ⟨fb, 0, none⟩) fn fc, .int .i64 (n : Int)] 81 (0, 0)) ∧ OwL w n0 vc S ∧ n0 ≤ fb ∧ Rd w w.heap.size (.slice (some ⟨fb, 0, none⟩) fn fc) ((filt S).map bv) ∧ fb < w.heap.size
  ge : n0 ≤ b
/-- what is told -/
def OpenEnd (l : List UInt8) (w : World) (e : Ending) (w' : World) : Prop :=
  ((∃ S LL b, TabAt l S LL ∧ e = .returned (.tuple #[.pointer (some ⟨b, 0, none⟩), .int .i64 0]) ∧ TblV w' w.heap.size b S LL.length) ∨
    ((¬ ∃ S LL, TabAt l S LL) ∧ e = .returned (.tuple #[.pointer none, .int .i64 2]))) ∧ Below w.heap.size w w'
set_option maxHeartbeats 600000 in
set_option maxRecDepth 100000 in
theorem open_any (v : Value) (l : List UInt8) (B : Nat) (w : World) (hr : Rd w B v (l.map bv)) (hB : B ≤ w.heap.size) (hl : l.length ≤ 50000) :
    Calls Try.prog 16 #[v] w (OpenEnd l w) := by
  have HR := Lib.hid hr
  clear hr
  go_enter Try.func16, Try.ntmps16
  go_wp2_with fail
  refine (cutEnd_any v l B _ HR.out hB (by omega)).mono ?_
  rintro e w1 ⟨⟨x1, y1, bd, ft, rfl, hx1, hy1, hbl, hfl, hE⟩, hb1⟩
  have HX1 := Lib.hid hx1
  have HY1 := Lib.hid hy1
  have HE := Lib.hid hE
  have HB1 := Lib.hid hb1
  clear hx1 hy1 hE hb1
  go_wp2_with fail
  refine (cutStarts_any y1 ft _ _ HY1.out.rd (by omega)).mono ?_
  rintro e w2 ⟨⟨x2, y2, ss, lf, D, rfl, hx2, hD, hy2, hlfl, hssl, hssb, hF⟩, hb2⟩
  have HX2 := Lib.hid hx2
  have HY2 := Lib.hid hy2
  have HSB := Lib.hid hssb
  have HF : Hid (∀ S L0, TabAt l S L0 → lf = textB ⟨(filt S).toArray⟩ ∧ Blks bd ss L0) := Lib.hid fun S L0 h => tab_exact h (by omega) HE.out hF
  have HBD := Lib.hid (HX1.out.below (hb2.mono (Nat.le_trans hB HB1.out.size)))
  have HB2 := Lib.hid (bwstep HB1.out hb2)
  clear hx2 hy2 hssb hF hb2 HX1 HY1 HE
  go_wp2_with fail
  refine (cutText_any y2 lf D _ HY2.out (by omega)).mono ?_
  rintro e w3 ⟨⟨r3, rfl, -⟩, hb3⟩
  have HX3 := Lib.hid (HX2.out.below hb3)
  have HBD3 := Lib.hid (HBD.out.below (hb3.mono (Nat.le_trans hB HB2.out.size)))
  have HB3 := Lib.hid (bwstep HB2.out hb3)
  have HCT : Hid (∀ S L0, TabAt l S L0 → ctOk lf = true ∧ ctS lf = ⟨(filt S).toArray⟩) := Lib.hid fun S L0 h => by
    obtain ⟨h1, -⟩ := HF.out S L0 h
    rw [h1]
    refine text_ct ?_
    have := h.foot
    rw [foot_len] at this
    rw [ba_size]
    omega
  clear hb3 HX2 HY2 HBD HB2
  generalize hck : ctOk lf = ck at *
  generalize hcs : ctS lf = fs at *
  have HCK := Lib.hid hck
  clear hck
  have hfs : fs.size ≤ 50000 := by
    rw [← hcs]
    unfold ctS
    split
    · rw [ba_size]
      unfold textOf
      rw [List.length_take, List.length_drop]
      omega
    · show 0 ≤ 50000
      omega
  clear hcs
  go_wp2_with fail
  refine (read_any x1 x2 bd ss B _ _ HBD3.out (Nat.le_trans hB HB3.out.size) (by omega) HSB.out (by omega) HX3.out.rd (Nat.le_refl _)).mono ?_
  rintro e w4 ⟨(⟨y4, LL, rfl, hrb, -, hlk, hlc, hex⟩ | ⟨hno, rfl⟩), hb4⟩
  · have HB4 := Lib.hid (bwstep HB3.out hb4)
    have HRB := Lib.hid hrb
    have HLK := Lib.hid hlk
    have HEX := Lib.hid hex
    clear hrb hlk hex hb4 HX3 HBD3 HB3
    have hlc2 : (flatC LL.flatten).length ≤ 50000 := by omega
    have hokL : ∀ c ∈ LL.flatten, c.ok := fun c hc => by
      obtain ⟨M, hM, hc⟩ := List.mem_flatten.1 hc
      exact (HLK.out M hM).1.ok c hc
    have hfl2 := flatC_ge hokL
    have hLKL : ∀ M ∈ LL, (∀ c ∈ M, c.ok) ∧ M ≠ [] ∧ M.length ≤ 1000000 := fun M hM => by
      obtain ⟨h1, h2⟩ := HLK.out M hM
      have h3 := (List.sublist_flatten_of_mem hM).length_le
      exact ⟨h1.ok, h2, by omega⟩
    have HLKL := Lib.hid hLKL
    have hq1 := leastQ_ge LL LL.length
    cases ck
    · have HNO : Hid (¬ ∃ S L0, TabAt l S L0) := Lib.hid fun ⟨S, L0, h⟩ => by
        have := (HCT.out S L0 h).1
        cases this
      go_wp2_with fail
      go_ret2
      exact ⟨.inr ⟨HNO.out, rfl⟩, HB4.out⟩
    · clear hokL hLKL
      obtain ⟨A4, c4, rfl, hc4, hm4⟩ := HRB.out.shape
      unfold maxLen at hm4
      go_wp2_with fail
      refine (concatL_any _ LL _ HRB.out (by omega)).mono ?_
      rintro e w5 ⟨⟨x5, rfl, hx5⟩, hb5⟩
      generalize hSS : LL.flatten = SS at *
      have HSS := Lib.hid hSS
      clear hSS
      obtain ⟨A5, c5, rfl, -, -⟩ := (hx5.rd (S := []) (fun _ h => by cases h)).shape
      have HX5 := Lib.hid hx5
      have HB5 := Lib.hid (bwstep HB4.out hb5)
      have HRB5 := Lib.hid (HRB.out.bel hb5)
      have HBB := Lib.hid HB4.out.size
      clear hx5 hb5 HRB
      go_wp2_with fail
      refine (least_any _ LL _ HRB5.out HLKL.out).mono ?_
      rintro e w6 ⟨rfl, hb6⟩
      have HX6 := Lib.hid (HX5.out.below hb6)
      have HB6 := Lib.hid (bwstep HB5.out hb6)
      clear hb6 HX5
      -- the table, were it built again
      have hres : ∃ (ok : Bool) (R : List UInt8), (ok = true → Sorted SS ∧ R = tabB SS (cutB (leastQ LL LL.length : Int) SS)) ∧ (Sorted SS → ok = true) ∧ ∀ (v : Value) (w : World), RdL w [] v SS →
          Calls Try.prog 12 #[v, .int .i64 (leastQ LL LL.length : Int)] w fun e w' => (∃ x, e = .returned (.tuple #[x, .int .i64 (if ok = true then 0 else 1)]) ∧ Ow w' w.heap.size 5 x (R.map bv)) ∧ Below w.heap.size w w' := by
        by_cases hso : Sorted SS
        · exact ⟨true, _, fun _ => ⟨hso, rfl⟩, fun _ => rfl, fun v w hv => tb_ok v _ _ w hv hso (by omega) hlc2⟩
        · exact ⟨false, [], fun h => (by cases h), fun h => absurd h hso, fun v w hv => (tb_no v _ _ w hv (fun h => hso h.1) (by omega)).mono fun e w' ⟨h1, h2⟩ => ⟨⟨_, h1, Ow.nilB _ _ _⟩, h2⟩⟩
      obtain ⟨ok, R, hok1, hok2, hbu⟩ := hres
      have HTB : Hid (∀ S L0, TabAt l S L0 → ok = true ∧ R = l) := Lib.hid fun S L0 h => by
        obtain ⟨-, hbk⟩ := HF.out S L0 h
        have hLe := HEX.out L0 hbk
        subst hLe
        have hS := h.flat
        rw [HSS.out] at hS
        have hso : Sorted SS := by rw [hS]; exact h.s
        obtain ⟨-, hR⟩ := hok1 (hok2 hso)
        obtain ⟨size, hs1, hcut⟩ := h.cut
        have := cut_least (S := S) hs1
        rw [← hcut] at this
        rw [hR, hS, this]
        exact ⟨hok2 hso, h.e.symm⟩
      have HTA : Hid (ok = true → R = l → TabAt l SS (cutB (leastQ LL LL.length : Int) SS)) := Lib.hid fun h1 h2 => by
        obtain ⟨hso, hR⟩ := hok1 h1
        have := (tab_fit (size := (leastQ LL LL.length : Int)) hso hlc2 (by omega)).1
        rw [← hR, h2] at this
        exact this
      have HBU := Lib.hid hbu
      generalize leastQ LL LL.length = q at *
      clear hok1 hok2 hbu hlc hlc2 hfl2
      go_wp2_with fail
      refine (HBU.out _ _ (HX6.out.rd (fun _ h => by cases h))).mono ?_
      rintro e w7 ⟨⟨x7, rfl, hx7⟩, hb7⟩
      have HX7 := Lib.hid hx7
      have HC7 := Lib.hid (HX6.out.below hb7)
      have HB7 := Lib.hid (bwstep HB6.out hb7)
      clear hx7 hb7 HX6 HBU
      cases ok
      · have HNO : Hid (¬ ∃ S L0, TabAt l S L0) := Lib.hid fun ⟨S, L0, h⟩ => by
          have := (HTB.out S L0 h).1
          cases this
        clear HTB HTA
        go_wp2_with fail
        go_ret2
        exact ⟨.inr ⟨HNO.out, rfl⟩, HB7.out⟩
      · have heq := fun w hx hy => equal_any x7 v R l w.heap.size B w hx hy
        have HVW := Lib.hid (HR.out.below (HB7.out.mono hB))
        go_wp2_with fail
        refine (heq w7 HX7.out.rd HVW.out).mono ?_
        rintro e w8 ⟨rfl, rfl⟩
        by_cases hRl : R = l
        · have hsm : sameB R l = true := by unfold sameB; rw [decide_eq_true hRl]
          have hT := HTA.out (by simp) hRl
          obtain ⟨hlf, hbk⟩ := HF.out _ _ hT
          have hLL := HEX.out _ hbk
          rw [← hLL] at hT
          obtain ⟨-, hfe⟩ := HCT.out _ _ hT
          have HT := Lib.hid hT
          obtain ⟨xf, wf, hcv, hrf, hbf, nf, cf, rfl⟩ := run_bytes (P := Try.prog) w8 (src := 9) (dst := 26) (e := 5) fs Try.underlying9 Try.underlying26 Try.underlying5 (by simp [maxLen]; omega)
          have hfd : fs.data.toList = filt SS := by rw [hfe]
          rw [hfd] at hrf
          have hfp : 0 < (filt SS).length := by
            unfold filt
            rw [Blm.mkB_len]
            unfold Blm.size
            split <;> omega
          have hfb : w8.heap.size < wf.heap.size := by
            obtain ⟨b', o', c', e', -, -, hb, -⟩ := hrf.at_ (by simpa using hfp)
            injection e' with e1 _ _
            injection e1 with e1
            injection e1 with e1 _
            omega
          have HRF := Lib.hid hrf
          have HBF := Lib.hid hbf
          have HCF := Lib.hid (HC7.out.below hbf)
          rw [hsm]
          clear heq HVW hRl hsm hT hlf hbk hLL hfe hfd hfp hrf hbf HTB HTA HF HEX HCT
          go_wp2_with (refine wpList_boxRow rfl _ (.tmp 66) rfl #[.slice A5 SS.length c5, .slice (some ⟨w8.heap.size, 0, none⟩) nf cf, .int .i64 (LL.length : Int)] rfl ?_)
          go_ret2
          have hall := bwalloc (bwrefl wf) (.cells #[.slice A5 SS.length c5, .slice (some ⟨w8.heap.size, 0, none⟩) nf cf, .int .i64 (LL.length : Int)] 81)
          have hBf := bwstep (bwstep HB7.out HBF.out) hall
          refine ⟨.inl ⟨SS, LL, wf.heap.size, HT.out, rfl, ⟨⟨_, _, _, _, heap_alloc_new _ _, (HCF.out.below hall).mono HBB.out, HB7.out.size, HRF.out.up hall, ?_⟩, Nat.le_trans HB7.out.size HBF.out.size⟩⟩, hBf⟩
          have := hall.size
          omega
        · have hsm : sameB R l = false := by unfold sameB; rw [decide_eq_false hRl]
          have HNO : Hid (¬ ∃ S L0, TabAt l S L0) := Lib.hid fun ⟨S, L0, h⟩ => hRl (HTB.out S L0 h).2
          rw [hsm]
          clear heq HVW hRl hsm HTB HTA
          go_wp2_with fail
          go_ret2
          exact ⟨.inr ⟨HNO.out, rfl⟩, HB7.out⟩
  · have HB4 := Lib.hid (bwstep HB3.out hb4)
    have HNO : Hid (¬ ∃ S L0, TabAt l S L0) := Lib.hid fun ⟨S, L0, h⟩ => hno ⟨L0, (HF.out S L0 h).2⟩
    clear hno hb4
    cases ck
    · go_wp2_with fail
      go_ret2
      exact ⟨.inr ⟨HNO.out, rfl⟩, HB4.out⟩
    · go_wp2_with fail
      go_ret2
      exact ⟨.inr ⟨HNO.out, rfl⟩, HB4.out⟩
end Go.Proofs.Ytdemdmingelamaa.Ce
