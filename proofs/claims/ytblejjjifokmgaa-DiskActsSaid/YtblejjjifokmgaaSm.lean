/- The contract of the function same of the statements of layer 7. -/
import Derived.Test.YtblejjjifokmgaaRfD
import Derived.Test.YtblejjjifokmgaaDskC
import Derived.Test.YtblejjjifokmgaaSame
import Derived.Test.YtblejjjifokmgaaDoP
import Derived.Test.YtblejjjifokmgaaDskA
namespace Go.Proofs.Ytblejjjifokmgaa
open Go.RowKit Go.Maps Dk

set_option maxHeartbeats 4000000 in
set_option maxRecDepth 100000 in
theorem same_any {w : World} {B : Nat} {d v : Value} {db mb cap : Nat} {L : List Fr} {M : List Rf} (h : DiskAt w B d db mb cap (total (L.map Fr.fl)) L) (hI : Inv cap (L.map Fr.fl)) (hv : RdF w [] v M) (hM : M.map Rf.fl = L.map Fr.fl) (hL : L.length ≤ 1000000) :
    Calls Try.prog 10 #[d, v] w fun e w' => e = .returned (.bool true) ∧ Below w.heap.size w w' := by
  obtain rfl := h.hd
  obtain ⟨A, c, rfl, hc, hm⟩ := hv.c.shape
  unfold maxLen at hm
  have hml : M.length = L.length := by have := congrArg List.length hM; simpa using this
  rw [hml] at hv hc
  have hnames := names_any h (by omega)
  have hused := fun w' (h' : DiskAt w' B (.pointer (some ⟨db, 0, none⟩)) db mb cap (total (L.map Fr.fl)) L) => used_any h'
  have hrus := fun w' hv' => rused_any (.slice A L.length c) M [] w' hv' (by rw [hM]; have := hI.tot; have := hI.capb; omega)
  rw [hM] at hrus
  have H := Lib.hid h
  have HV := Lib.hid hv
  have HI := Lib.hid hI
  have HM := Lib.hid hM
  have HML := Lib.hid hml
  clear h hv hI hM
  rw [hml]
  clear hml
  go_enter Try.func10, Try.ntmps10
  go_wp2_with fail
  refine hnames.mono ?_
  rintro e w1 ⟨⟨nv, rfl, hno⟩, hb1⟩
  obtain ⟨An, cn, en, hcn, hmn⟩ := hno.rd.shapeM
  rw [List.length_map] at en hcn
  subst en
  unfold maxLen at hmn
  have HN := Lib.hid hno.rd
  have HB := Lib.hid hb1
  have H1 := Lib.hid (H.out.below hb1)
  have HV1 := Lib.hid (HV.out.bel hb1)
  have hu := hused w1 H1.out
  have hr := hrus w1 HV1.out
  generalize total (L.map Fr.fl) = tt at hu hr
  clear hnames hno hb1 hused hrus
  go_wp2_with fail
  refine hu.mono ?_
  rintro e w2 ⟨rfl, rfl⟩
  go_wp2_with fail
  refine hr.mono ?_
  rintro e w2 ⟨rfl, rfl⟩
  clear hu hr
  go_wp2_with fail
  go_loopw [6] (fun i wr => ∃ k : Nat, k ≤ L.length ∧ i = .int .i64 (k : Int) ∧ Below w1.heap.size w1 wr) (fun i _ => L.length - (intOf i).toNat)
  case atStart => exact ⟨0, Nat.zero_le _, rfl, Below.refl _ _⟩
  case round =>
    obtain ⟨k, hk, rfl, hbw⟩ := hrel
    have HBW := Lib.hid hbw
    by_cases hlt : k < L.length
    · have hlm : k < M.length := by rw [HML.out]; exact hlt
      obtain ⟨bl, off, rfl, -, -⟩ := HV1.out.c.open_ (by omega)
      obtain ⟨bn, on, rfl, hbn, hcell⟩ := HN.out.cellM (by rw [List.length_map]; omega)
      have hcz := hcell k (by rw [List.length_map]; exact hlt)
      rw [List.getElem_map] at hcz
      have hgk : M[k]? = some (M[k]'hlm) := List.getElem?_eq_getElem _
      have hrk : L[k]? = some (L[k]'hlt) := List.getElem?_eq_getElem _
      have hgr : (M[k]'hlm).fl = (L[k]'hlt).fl := by
        have := congrArg (fun l => l[k]?) HM.out
        simp only [List.getElem?_map, hgk, hrk, Option.map_some, Option.some.injEq] at this
        exact this
      have hrL : L[k]'hlt ∈ L := List.getElem_mem _
      have hgM : M[k]'hlm ∈ M := List.getElem_mem _
      generalize M[k]'hlm = g at *
      generalize L[k]'hlt = r at *
      have hfm : r.fl ∈ L.map Fr.fl := List.mem_map.2 ⟨r, hrL, rfl⟩
      have hnm := named_le (HI.out.nmd _ hfm)
      have hfi := HI.out.fine _ hfm
      have hln : r.fl.l.length ≤ 1000000 := by have := len_le_total hfm; have := HI.out.tot; have := HI.out.capb; omega
      have HCZ : Hid (∀ wz, Below w1.heap.size w1 wz → wz.cell? ⟨bn, on + k, none⟩ = some (.string g.fl.nm)) := Lib.hid fun wz hb => (hb.cell (p := ⟨bn, on + k, none⟩) hbn).trans (by rw [hgr]; exact hcz)
      have HVZ := Lib.hid (fun wz (hb : Below w1.heap.size w1 wz) => (HV1.out.bel hb).c.at_ hgk)
      have HGB := Lib.hid (fun wz (hb : Below w1.heap.size w1 wz) => ((HV1.out.bel hb).b g hgM).1)
      obtain ⟨Ag, cg, eg, hcg, hmg⟩ := (HGB.out _ hbw).shapeM
      unfold maxLen at hmg
      have hd := H1.out.below hbw
      have r1 := read_ok hd g.fl.nm (by rw [hgr]; omega) hrL (fnd_self (L := L) hd.srt hrL (s := g.fl.nm.data.toList) (by rw [hgr]; rfl)) (by omega)
      have hsy := fun w' (hd' : DiskAt w' B (.pointer (some ⟨db, 0, none⟩)) db mb cap (total (L.map Fr.fl)) L) => synced_ok hd' g.fl.nm (by rw [hgr]; omega) hrL (fnd_self (L := L) hd'.srt hrL (s := g.fl.nm.data.toList) (by rw [hgr]; rfl)) (by omega) hfi
      rw [← hgr] at r1 hsy
      have hfi' : g.fl.s ≤ g.fl.l.length := by rw [hgr]; exact hfi
      have hln' : g.fl.l.length ≤ 1000000 := by rw [hgr]; exact hln
      obtain ⟨c0, c1, c2⟩ := HVZ.out _ hbw
      have hh3 : (0 : Int) ≤ (k : Int) := by omega
      have hh4 : (k : Int) < (L.length : Int) := by omega
      clear hcz hcell hgk hrk hgr hrL hgM hfm hnm hd hbn hbw hfi hln
      go_wp2_with fail
      refine r1.mono ?_
      rintro e w3 ⟨⟨v3, rfl, h3⟩, hb3⟩
      obtain ⟨A3, c3, rfl, -, -⟩ := h3.rd.shapeM
      have HB3 := Lib.hid (bwstep HBW.out hb3)
      have h3r := h3.rd
      have hd3 := H1.out.below HB3.out
      obtain ⟨c0, c1, c2⟩ := HVZ.out _ HB3.out
      have r2 := hsy _ hd3
      clear r1 hb3 h3 hd3
      go_wp2_with fail
      refine r2.mono ?_
      rintro e w4 ⟨⟨v4, rfl, h4⟩, hb4⟩
      have HB4 := Lib.hid (bwstep HB3.out hb4)
      have h3r := h3r.up hb4
      have h4r := h4.rd
      obtain ⟨A4, c4, rfl, -, -⟩ := h4r.shapeM
      rw [List.length_take, Nat.min_eq_left hfi'] at h4r ⊢
      obtain ⟨c0, c1, c2⟩ := HVZ.out _ HB4.out
      have cz := HCZ.out _ HB4.out
      have gr := HGB.out _ HB4.out
      rw [eg] at c1 gr
      have grc := gr.cutTo (hi := g.fl.s) hfi'
      rw [← List.map_take] at grc
      have s1 := fun n : Nat => rsame_any _ _ _ _ _ _ (w4.drewN n) (h3r.below (bwN' w4 n)) (gr.below (bwN' w4 n))
      have s2 := fun n : Nat => rsame_any _ _ _ _ _ _ (w4.drewN n) (h4r.below (bwN' w4 n)) (grc.below (bwN' w4 n))
      simp only [sameB_self] at s1 s2
      have S1 := Lib.hid s1
      have S2 := Lib.hid s2
      have hcs : g.fl.s ≤ cg := by omega
      have hs1 : (0 : Int) ≤ (g.fl.s : Int) := by omega
      have hs2 : (g.fl.s : Int) ≤ (cg : Int) := by omega
      clear h3r h4r gr grc s1 s2 r2 hb4 h4 HGB eg
      go_wp2_with fail
      go_quiet (first
        | (go_at_call 28; with_reducible exact Calls.quiet_of_same ((S1.out _).mono fun _ _ ⟨h1, h2⟩ => ⟨h1, h2.symm⟩))
        | (go_at_call 28; with_reducible exact Calls.quiet_of_same ((S2.out _).mono fun _ _ ⟨h1, h2⟩ => ⟨h1, h2.symm⟩)))
      go_wp2_with fail
      go_roundw
      case rel => exact ⟨k + 1, by omega, by go_num, bwstep HB4.out (bwN _)⟩
      case measure => simp [intOf]; omega
    · go_wp2_with fail
      go_ret
      exact ⟨rfl, bwstep HB.out HBW.out⟩
end Go.Proofs.Ytblejjjifokmgaa
