/- The statement DiskKeeps: its walk, to the end. -/
import Derived.Test.YtiiibiajkhkplaaDskA
import Derived.Test.YtiiibiajkhkplaaSame
namespace Go.Proofs.Ytiiibiajkhkplaa
open Go.RowKit Go.Maps Dk

theorem xor_ff (c : UInt8) : bits .xor .u8 (c.toNat : Int) 255 = ((c ^^^ 255).toNat : Int) := xor_u8 c 255
/-- a slice of the call's own that is none of the blocks S -/
def OffS (v : Value) (S : List Nat) : Prop := ∀ k, v.ownBlock = some k → k ∉ S
theorem Ow.offNew {w : World} {B e : Nat} {v : Value} {xs : List Value} {S : List Nat} (h : Ow w B e v xs) (hS : ∀ k ∈ S, k < B) : OffS v S := fun k hk hm => by
  have := hS k hm
  have := h.ge k hk
  omega
theorem OffS.up {w : World} {B e : Nat} {v : Value} {xs : List Value} {S S' : List Nat} (h : OffS v S) (ho : Ow w B e v xs) (hS : ∀ k ∈ S', k ∈ S ∨ w.heap.size ≤ k) : OffS v S' := fun k hk hm => by
  rcases hS k hm with h1 | h1
  · exact h k hk h1
  · have := (ho.lt k hk).2
    omega
theorem Ow.kp {w w' : World} {B e : Nat} {v : Value} {xs : List Value} {S : List Nat} (h : Ow w B e v xs) (hv : OffS v S) (hk : Kp S w w') : Ow w' B e v xs := h.same fun k hx => hk.block k (h.lt k hx).2 (hv k hx)
abbrev nF : ByteArray := ⟨#[102]⟩
/-- a byte of a slice of the call's own is written: the disk stays, and so does another slice -/
theorem own_set {w : World} {B0 B : Nat} {d : Value} {db mb cap us : Nat} {L : List Fr} {A : Option Addr} {n c k : Nat} {cs : List UInt8} (hd : DiskAt w B d db mb cap us L) (h : Ow w B0 5 (.slice A n c) (cs.map bv)) (hv : OffS (.slice A n c) (fp db mb L)) (hk : k < cs.length) :
    ∃ g u, A = some ⟨g, 0, none⟩ ∧ B0 ≤ g ∧ w.cell? ⟨g, k, none⟩ = some (bv u) ∧ w.frozen? ⟨g, k, none⟩ = false ∧
      ∀ t : UInt8, (∃ cs' : List UInt8, cs'.length = cs.length ∧ Ow (w.setCell ⟨g, k, none⟩ (bv t)) B0 5 (.slice A n c) (cs'.map bv)) ∧ DiskAt (w.setCell ⟨g, k, none⟩ (bv t)) B d db mb cap us L ∧ Kp [g] w (w.setCell ⟨g, k, none⟩ (bv t)) := by
  obtain ⟨g, rfl, hB, hlt, hcell, hfr, hset⟩ := h.at_ (k := k) (by simpa using hk)
  refine ⟨g, cs[k], rfl, hB, by rw [hcell]; simp, hfr, fun t => ⟨⟨cs.set k t, by simp, ?_⟩, ?_, Kp.set _ (p := ⟨g, k, none⟩) (by simp) _⟩⟩
  · have := hset (bv t)
    rw [← List.map_set] at this
    exact this
  · exact hd.kp (Kp.set (S := [g]) _ (p := ⟨g, k, none⟩) (by simp) _) fun q hq hm => hv g rfl (by rw [List.mem_singleton.1 hm] at hq; exact hq)
set_option maxHeartbeats 4000000 in
set_option maxRecDepth 100000 in
theorem diskKeeps_walk (x : Value) (l : List UInt8) (w : World) (hx : Rd w w.heap.size x (l.map bv)) (hz : l.length ≤ 140737488351232) :
    Calls Try.prog 5 #[x] w fun e w' => e = .returned (.bool true) ∧ Below w.heap.size w w' := by
  obtain ⟨A, c, rfl, hc, hm⟩ := hx.shapeM
  unfold maxLen at hm
  go_enter Try.func5, Try.ntmps5
  go_wp2_with fail
  refine (dawake_ok _).mono ?_
  rintro e w1 ⟨rfl, hb1⟩
  by_cases h1 : (l.length : Int) ≤ 1000
  · have h1' : ¬ (1000 : Int) < (l.length : Int) := by omega
    have hx1 := hx.up hb1
    go_wp2_with fail
    refine (dnew_any 5000 w1 (by omega) (by omega)).mono ?_
    rintro e w2 ⟨db, mb, rfl, hd0, hb2⟩
    rw [show capN 5000 = 5000 from rfl] at hd0
    have hx2 := hx1.up hb2
    have hd := Lib.hid hd0
    clear hd0
    have k3 := hx2.up (bwalloc (bwrefl w2) (.cells #[] 5))
    have hl0 : ([] : List UInt8).length + l.length ≤ 140737488355328 := by simp; omega
    go_wp2_with (at_builtin; refine wpList_appB bytesT rfl (.tmp 25) (.tmp 26) rfl rfl (Ow.empty w2 (Nat.le_refl _) _) rfl k3 hl0 (by simp) ?_; intro v4 w4 h4 g4 _; have hb4 := Ow.emptyG g4; rw [List.nil_append] at h4; clear g4 hl0)
    have st4 := Step.bel hd.out hb4
    have of4 : OffS v4 (fp db mb []) := h4.offNew hd.out.lt
    have hB4 : w1.heap.size ≤ w4.heap.size := Nat.le_trans hb2.size hb4.size
    have ap := append_ok st4.at_ (by simp) hB4 nF rfl (by decide) l ⟨h4.rd, fun _ => of4⟩ (by omega) (by omega) (by simp [opF, fnd])
    obtain ⟨A4, c4, rfl, hc4, hm4⟩ := h4.rd.shapeM
    unfold maxLen at hm4
    have ST := Lib.hid st4
    have HB2 := Lib.hid hb2
    have HB1 := Lib.hid hb1
    clear st4 hx1 hx2 k3 hb4 hb2 hb1
    go_wp2_with fail
    refine ap.mono ?_
    rintro e w5 ⟨rfl, L1, st5, hf5⟩
    rw [show put key { opF nF (List.map Fr.fl []) with l := (opF nF (List.map Fr.fl [])).l ++ l } (opL nF (List.map Fr.fl [])) = [⟨nF, l, 0⟩] from rfl] at hf5
    obtain ⟨f1, rfl, e1⟩ := map_one hf5
    have h5 := h4.kp of4 st5.kp
    have of5 := of4.up h4 st5.sub
    have st := ST.out.trans st5
    have sy := sync_ok (A := []) (C := []) st.at_ nF (by decide) (fnd_self (L := [f1]) st.at_.srt (by simp) (by rw [e1]; rfl))
    rw [e1] at sy
    have ST := Lib.hid st
    clear ap st5 st hf5 h4 of4
    go_wp2_with fail
    refine sy.mono ?_
    rintro e w6 ⟨rfl, st6⟩
    have h6 := h5.kp of5 st6.kp
    have of6 := of5.up h5 st6.sub
    have st := ST.out.trans st6
    simp only [List.nil_append] at st h6 of6
    obtain ⟨f2, hf2⟩ : ∃ f2 : Fr, f2 = { f1 with fl := { (⟨nF, l, 0⟩ : Fl) with s := l.length } } := ⟨_, rfl⟩
    have e2 : f2.fl = ⟨nF, l, l.length⟩ := by rw [hf2]
    rw [← hf2] at of6 st
    have h6 := h6.mono (show w.heap.size ≤ w2.heap.size from Nat.le_trans HB1.out.size HB2.out.size)
    have SB := Lib.hid (bwstep HB1.out (HB2.out.trans (st.kp.below hd.out.ge HB2.out.size)))
    have SD := Lib.hid st.at_
    have HO := Lib.hid of6
    clear sy st6 st hf2 e1 h5 of5 ST of6
    go_wp2_with fail
    go_loopw [5] (fun i wr => ∃ (k : Nat) (cs : List UInt8), k ≤ cs.length ∧ cs.length = l.length ∧ i = .int .i64 (k : Int) ∧ Ow wr w.heap.size 5 (.slice A4 l.length c4) (cs.map bv) ∧ DiskAt wr w1.heap.size (.pointer (some ⟨db, 0, none⟩)) db mb 5000 (0 + l.length) [f2] ∧ Below w.heap.size w wr) (fun i _ => l.length - (intOf i).toNat)
    case atStart => exact ⟨0, l, Nat.zero_le _, rfl, rfl, h6, SD.out, SB.out⟩
    case round =>
      clear h6
      obtain ⟨k, cs, hk, hcl, rfl, h6, hdk, hbk⟩ := hrel
      by_cases hlt : k < cs.length
      · obtain ⟨g, u, rfl, hgB, hcu, hfr, hset⟩ := own_set hdk h6 HO.out hlt
        obtain ⟨⟨cs', hcl', hoc⟩, hdc, hkc⟩ := hset (u ^^^ 255)
        have hbc := hbk.trans (hkc.below (B := w.heap.size) (fun q hq => by rw [List.mem_singleton.1 hq]; exact hgB) hbk.size)
        unfold bv at hcu hoc hdc hbc
        rw [← xor_ff] at hoc hdc hbc
        have HOC := Lib.hid hoc
        have HDC := Lib.hid hdc
        have HBC := Lib.hid hbc
        have HCL := Lib.hid hcl
        have HCL' := Lib.hid hcl'
        have hlt2 : k < l.length := by omega
        clear hset hoc hdc hbc hkc h6 hdk hbk hcl hcl'
        go_wp2_with fail
        go_roundw
        case rel => exact ⟨k + 1, cs', by rw [HCL'.out]; omega, HCL'.out.trans HCL.out, by go_num, HOC.out, HDC.out, HBC.out⟩
        case measure => simp [intOf]; omega
      · have hkl : k = l.length := by omega
        subst hkl
        have rd := read_ok (f := f2) hdk nF (by decide) (by simp) (fnd_self (L := [f2]) hdk.srt (by simp) (by rw [e2]; rfl)) (by rw [e2]; simp; omega)
        rw [e2] at rd
        have HDK := Lib.hid hdk
        have HBK := Lib.hid hbk
        clear h6 hdk hbk hk hcl
        go_wp2_with fail
        refine rd.mono ?_
        rintro e w8 ⟨⟨v8, rfl, h8⟩, hb8⟩
        have hd8 := HDK.out.below hb8
        have hdk_lt := HDK.out.lt
        have HS8 := Lib.hid HBK.out.size
        have sy := synced_ok (f := f2) hd8 nF (by decide) (by simp) (fnd_self (L := [f2]) hd8.srt (by simp) (by rw [e2]; rfl)) (by rw [e2]; simp; omega) (by rw [e2]; simp)
        rw [e2] at sy
        have HDK := Lib.hid hd8
        have HBK := Lib.hid (bwstep HBK.out hb8)
        clear rd hd8 hb8
        go_wp2_with fail
        refine sy.mono ?_
        rintro e w9 ⟨⟨v9, rfl, h9⟩, hb9⟩
        rw [show List.take (⟨nF, l, l.length⟩ : Fl).s (⟨nF, l, l.length⟩ : Fl).l = l from List.take_length] at h9
        have h8' := h8.below hb9
        have ap89 : Apart v8 v9 := fun q hq hq9 => by
          have := (h8.lt q hq).2
          have := h9.ge q hq9
          omega
        have of8 : OffS v8 (fp db mb [f2]) := h8.offNew fun q hq => hdk_lt q hq
        have of9 : OffS v9 (fp db mb [f2]) := h9.offNew HDK.out.lt
        have h8 := h8'.mono (show w.heap.size ≤ _ from HS8.out)
        have h9 := h9.mono (show w.heap.size ≤ _ from HBK.out.size)
        have HDK := Lib.hid (HDK.out.below hb9)
        have HBK := Lib.hid (bwstep HBK.out hb9)
        obtain ⟨A8, c8, rfl, hc8, hm8⟩ := h8.rd.shapeM
        obtain ⟨A9, c9, rfl, hc9, hm9⟩ := h9.rd.shapeM
        unfold maxLen at hm8 hm9
        have H8 := Lib.hid h8
        have H9 := Lib.hid h9
        have HX := Lib.hid (hx.up HBK.out)
        clear sy hb9 h8' h8 h9
        go_wp2_with fail
        refine (rsame_any _ _ l l _ _ _ H8.out.rd HX.out).mono ?_
        rintro e w10 ⟨rfl, rfl⟩
        rw [sameB_self]
        go_wp2_with fail
        refine (rsame_any _ _ l l _ _ _ H9.out.rd HX.out).mono ?_
        rintro e w10 ⟨rfl, rfl⟩
        rw [sameB_self]
        go_wp2_with fail
        go_loopw [11] (fun i wr => ∃ (k : Nat) (cs1 cs2 : List UInt8), k ≤ l.length ∧ cs1.length = l.length ∧ cs2.length = l.length ∧ i = .int .i64 (k : Int) ∧ Ow wr w.heap.size 5 (.slice A8 l.length c8) (cs1.map bv) ∧ Ow wr w.heap.size 5 (.slice A9 l.length c9) (cs2.map bv) ∧ DiskAt wr w1.heap.size (.pointer (some ⟨db, 0, none⟩)) db mb 5000 (0 + l.length) [f2] ∧ Below w.heap.size w wr) (fun i _ => l.length - (intOf i).toNat)
        case atStart => exact ⟨0, l, l, Nat.zero_le _, rfl, rfl, rfl, H8.out, H9.out, HDK.out, HBK.out⟩
        case round =>
          obtain ⟨k, cs1, cs2, hk, hl1, hl2, rfl, o1, o2, hdk, hbk⟩ := hrel
          by_cases hlt : k < l.length
          · obtain ⟨g1, u1, rfl, hgB1, hcu1, hfr1, hset1⟩ := own_set hdk o1 of8 (show k < cs1.length by omega)
            obtain ⟨⟨cs1', hcl1, hoc1⟩, hdc1, hkc1⟩ := hset1 7
            have o2 := o2.kp (S := [g1]) (fun q hq hm => ap89 g1 rfl (by rw [List.mem_singleton.1 hm] at hq; exact hq)) hkc1
            obtain ⟨g2, u2, rfl, hgB2, hcu2, hfr2, hset2⟩ := own_set hdc1 o2 of9 (show k < cs2.length by omega)
            obtain ⟨⟨cs2', hcl2, hoc2⟩, hdc2, hkc2⟩ := hset2 8
            have hne : g1 ≠ g2 := fun e => ap89 g1 rfl (by rw [e]; rfl)
            have o1 := hoc1.kp (S := [g2]) (fun q hq hm => ap89 q hq (by rw [List.mem_singleton.1 hm]; rfl)) hkc2
            have hb2 := (hbk.trans (hkc1.below (B := w.heap.size) (fun q hq => by rw [List.mem_singleton.1 hq]; exact hgB1) hbk.size))
            have hb2 := hb2.trans (hkc2.below (B := w.heap.size) (fun q hq => by rw [List.mem_singleton.1 hq]; exact hgB2) hb2.size)
            have q2 := (World.cell?_of_block (w := wr) (a := ⟨g2, k, none⟩) (Below.heap_setCell wr ⟨g1, k, none⟩ (bv 7) g2 hne.symm)).symm.trans hcu2
            have r2 := (World.frozen?_of_block (w := wr) (a := ⟨g2, k, none⟩) (Below.heap_setCell wr ⟨g1, k, none⟩ (bv 7) g2 hne.symm)).symm.trans hfr2
            rw [show bv 7 = .int .u8 7 from rfl, show bv 8 = .int .u8 8 from rfl] at hoc2 o1 hdc2 hb2
            unfold bv at hcu1 q2
            have HO1 := Lib.hid o1
            have HO2 := Lib.hid hoc2
            have HD2 := Lib.hid hdc2
            have HB9 := Lib.hid hb2
            have HL1 := Lib.hid (hcl1.trans hl1)
            have HL2 := Lib.hid (hcl2.trans hl2)
            clear o1 o2 hoc1 hoc2 hdc1 hdc2 hset1 hset2 hkc1 hkc2 hb2 hdk hbk hcl1 hcl2 hl1 hl2 hcu2 hfr2
            go_wp2_with fail
            go_roundw
            case rel => exact ⟨k + 1, cs1', cs2', by omega, HL1.out, HL2.out, by go_num, HO1.out, HO2.out, HD2.out, HB9.out⟩
            case measure => simp [intOf]; omega
          · have rd := read_ok (f := f2) hdk nF (by decide) (by simp) (fnd_self (L := [f2]) hdk.srt (by simp) (by rw [e2]; rfl)) (by rw [e2]; simp; omega)
            rw [e2] at rd
            have HBQ := Lib.hid hbk
            clear o1 o2 hdk hbk
            go_wp2_with fail
            refine rd.mono ?_
            rintro e w12 ⟨⟨v12, rfl, h12⟩, hb12⟩
            have HBF := Lib.hid (bwstep HBQ.out hb12)
            have hx12 := hx.up HBF.out
            go_wp2_with fail
            refine (rsame_any _ _ l l _ _ _ h12.rd hx12).mono ?_
            rintro e w13 ⟨rfl, rfl⟩
            rw [sameB_self]
            go_wp2_with fail
            go_ret
            exact ⟨rfl, HBF.out⟩
  · have h1' : (1000 : Int) < (l.length : Int) := by omega
    go_wp2_with fail
    refine (dawake_ok _).mono ?_
    rintro e w3 ⟨rfl, hb3⟩
    go_wp2_with fail
    go_ret
    exact ⟨rfl, bwstep hb1 hb3⟩
end Go.Proofs.Ytiiibiajkhkplaa
