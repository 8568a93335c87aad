/- The reference's act 5 of layer 7. -/
import Derived.Test.YtblejjjifokmgaaRfD
import Derived.Test.YtblejjjifokmgaaDoC
namespace Go.Proofs.Ytblejjjifokmgaa
open Go.RowKit Go.Maps Dk
set_option linter.unusedVariables false

def ob (v : Value) : List Nat := v.ownBlock.toList
theorem mem_ob {v : Value} {k : Nat} : k ∈ ob v ↔ v.ownBlock = some k := by unfold ob; simp
/-- k files are done -/
structure CrF (w0 : World) (S : List Nat) (L : List Rf) (ks : List Int) (wr : World) (vo : Value) (k nx : Nat) (D : List Rf) : Prop where
  o : OwF wr w0.heap.size vo D
  b : ∀ g ∈ D, RdS wr (ob vo ++ S) g.v g.fl.l
  len : D.length = k
  kl : k ≤ L.length
  nl : nx ≤ ks.length
  cr : crash (L.map Rf.fl) ks = D.map Rf.fl ++ crash ((L.drop k).map Rf.fl) (ks.drop nx)
  bel : Below w0.heap.size w0 wr
theorem CrF.start (w0 : World) (S : List Nat) (L : List Rf) (ks : List Int) : CrF w0 S L ks w0 (.slice none 0 0) 0 0 [] :=
  ⟨OwF.nil _ _, fun g hg => by simp at hg, rfl, Nat.zero_le _, Nat.zero_le _, by simp, Below.refl _ _⟩
theorem CrF.one {w0 wr w1 w2 : World} {S : List Nat} {L D : List Rf} {ks : List Int} {vo v2 : Value} {k nx nx2 n : Nat} {f : Rf} {x : Value} (h : CrF w0 S L ks wr vo k nx D) (hf : L[k]? = some f) (hc : ∀ M, crash (f.fl :: M) (ks.drop nx) = keepF f.fl n :: crash M (ks.drop nx2)) (hn2 : nx2 ≤ ks.length)
    (hb : Below wr.heap.size wr w1) (hx : RdS w1 (ob vo ++ S) x (keepF f.fl n).l) (ho : OwF w2 w0.heap.size v2 (D ++ [⟨keepF f.fl n, x⟩])) (hg : w1.grownBy w2 vo.ownBlock) (h3 : v2.ownBlock = vo.ownBlock ∨ v2.ownBlock = some w1.heap.size) : CrF w0 S L ks w2 v2 (k + 1) nx2 (D ++ [⟨keepF f.fl n, x⟩]) := by
  have hlt := (List.getElem?_eq_some_iff.1 hf).1
  have hb1 := h.bel.trans (hb.mono h.bel.size)
  have hbl : Below w0.heap.size w0 w2 := hb1.grown hg hb1.size fun q hq => (h.o.lt q hq).1
  have hkp : Kp (ob vo ++ S) w1 w2 := Kp.grown hg fun q hq => by simp [mem_ob, hq]
  have hsub : ∀ q ∈ ob v2 ++ S, q ∈ ob vo ++ S ∨ w1.heap.size ≤ q := fun q hq => by
    rcases List.mem_append.1 hq with h1 | h1
    · rw [mem_ob] at h1
      rcases h3 with h3 | h3
      · left
        rw [h3] at h1
        simp [mem_ob, h1]
      · right
        rw [h3] at h1
        injection h1 with h1
        omega
    · left
      simp [h1]
  refine ⟨ho, fun g hg2 => ?_, by simp [h.len], hlt, hn2, ?_, hbl⟩
  · rcases List.mem_append.1 hg2 with h1 | h1
    · exact ((h.b g h1).up (Kp.of_below hb (ob vo ++ S)) fun _ hk => .inl hk).up hkp hsub
    · rw [List.mem_singleton.1 h1]
      exact hx.up hkp hsub
  · rw [h.cr, List.drop_eq_getElem_cons hlt, (List.getElem?_eq_some_iff.1 hf).2, List.map_cons, hc]
    simp
set_option maxHeartbeats 4000000 in
set_option maxRecDepth 100000 in
theorem rdo5 {w : World} {v : Value} {L : List Rf} {S : List Nat} (hv : RdF w S v L) (hS : ∀ k ∈ S, k < w.heap.size) (hs : Srt rk L) (hL : L.length ≤ 100000) (most : Nat) (hmost : most ≤ 65536) (hlen : ∀ f ∈ L, f.fl.l.length ≤ 100000) (hfine : ∀ f ∈ L, f.fl.s ≤ f.fl.l.length) (nm ot : ByteArray) (bx kx : Value) (b : List UInt8) (at_ : Int) (ks : List Int) (hx : RdS w S bx b) (hk : RdV w S kx (ks.map iv)) (hkr : ∀ q ∈ ks, inR q) (hb : b.length ≤ 1000000) :
    Calls Try.prog 8 #[v, .int .i64 (most : Int), .agg #[.int .i64 5, .string nm, .string ot, bx, .int .i64 at_, kx]] w fun e w' => RRes w w' S (crash (L.map Rf.fl) ks, 0) e := by
  obtain ⟨A, c, rfl, hc, hm⟩ := hv.c.shape
  obtain ⟨Ab, cb, rfl, hcb, hmb⟩ := hx.1.shapeM
  obtain ⟨Ak, ck, rfl, hck, hmk⟩ := hk.1.shapeM
  unfold maxLen at hm hmb hmk
  have hb0 := bwalloc (bwrefl w) (.cells #[.int .i64 5, .string nm, .string ot, .slice Ab b.length cb, .int .i64 at_, .slice Ak ks.length ck] 31)
  have hac := ActC.new w 5 nm ot (.slice Ab b.length cb) at_ (.slice Ak ks.length ck) 31
  have hv0 := hv.bel hb0
  have hfi := rfind_any _ L S nm _ hv0.c
  have HB := Lib.hid hb0
  have HV0 := Lib.hid hv0
  have HAC := Lib.hid hac
  have HK := Lib.hid (hk.up (Kp.of_below hb0 S) fun _ hk => .inl hk)
  have HKR := Lib.hid hkr
  have HS := Lib.hid hS
  have HFI := Lib.hid hfine
  have HLN := Lib.hid hlen
  obtain ⟨a0, a1, a2, a3, a4, a5⟩ : _ ∧ _ ∧ _ ∧ _ ∧ _ ∧ _ := ⟨hac.a0, hac.a1, hac.a2, hac.a3, hac.a4, hac.a5⟩
  clear hb0 hac hv0 hkr hS hfine hlen hk hx hv
  go_enter Try.func8, Try.ntmps8
  go_wp2_with fail
  generalize w.alloc (.cells #[.int .i64 5, .string nm, .string ot, .slice Ab b.length cb, .int .i64 at_, .slice Ak ks.length ck] 31) = w0 at *
  refine hfi.mono ?_
  rintro e w1 ⟨rfl, rfl⟩
  clear hfi
  go_wp2_with fail
  clear a0 a1 a2 a3 a4 a5
  go_loopw [10, 11, 12] (fun vo nx i wr => ∃ (k n : Nat) (D : List Rf), k ≤ L.length ∧ n ≤ ks.length ∧ i = .int .i64 (k : Int) ∧ nx = .int .i64 (n : Int) ∧ Hid (CrF w0 S L ks wr vo k n D)) (fun _ _ i _ => L.length - (intOf i).toNat)
  case atStart => exact ⟨0, 0, [], Nat.zero_le _, Nat.zero_le _, rfl, rfl, Lib.hid (CrF.start _ _ _ _)⟩
  case round =>
    obtain ⟨k, nx, D, hk, hnx, rfl, rfl, HC⟩ := hrel
    have hbw := HC.out.bel
    by_cases hlt : k < L.length
    · obtain ⟨bl, off, rfl, -, -⟩ := HV0.out.c.open_ (by omega)
      have hh3 : (0 : Int) ≤ (k : Int) := by omega
      have hh4 : (k : Int) < (L.length : Int) := by omega
      have hfk : L[k]? = some (L[k]'hlt) := List.getElem?_eq_getElem _
      generalize L[k]'hlt = f at hfk
      have hfL := List.mem_of_getElem? hfk
      have hfl := HLN.out f hfL
      have hff := HFI.out f hfL
      have hvr := HV0.out.bel hbw
      obtain ⟨Av, cv, ev, hcv, hmv⟩ := (hvr.b f hfL).1.shapeM
      unfold maxLen at hmv
      obtain ⟨c0, c1, c2⟩ := hvr.c.at_ hfk
      rw [ev] at c1
      have HRF := Lib.hid (ev ▸ hvr.b f hfL)
      have HFK := Lib.hid hfk
      have hfc := FilC.new wr ⟨f.fl, .slice Av f.fl.l.length cv⟩ 58
      have hbf := bwalloc (bwrefl wr) (.cells #[.string f.fl.nm, .slice Av f.fl.l.length cv, .int .i64 (f.fl.s : Int)] 58)
      have HFC := Lib.hid hfc
      have HBF := Lib.hid hbf
      have HA2 := Lib.hid ((HAC.out.bel hbw).bel hbf)
      have a5 := HA2.out.a5
      obtain ⟨r, hr⟩ : ∃ r, r = rst f.fl := ⟨_, rfl⟩
      have hr1 : (f.fl.l.length : Int) - (f.fl.s : Int) = (r : Int) := by unfold rst at hr; omega
      have HR := Lib.hid hr
      clear hfk hvr ev hbf hfL hfc hr
      by_cases h0 : r = 0
      · have h0b : decide ((0 : Int) < (r : Int)) = false := decide_eq_false (by omega)
        have h0i : ¬ ((0 : Int) < (r : Int)) := by omega
        have h0n : ¬ 0 < r := by omega
        have HCR : Hid (∀ M : List Fl, crash (f.fl :: M) (ks.drop nx) = keepF f.fl 0 :: crash M (ks.drop nx)) := Lib.hid fun M => crash_skip _ (by rw [← HR.out]; exact h0)
        clear h0
        have hr9 := (HRF.out.1).cutTo (hi := f.fl.s) (by omega)
        rw [← List.map_take] at hr9
        have hfn := FilC.new wr ⟨⟨f.fl.nm, f.fl.l, f.fl.s⟩, .slice Av f.fl.l.length cv⟩ 58
        have hbn := bwalloc (bwrefl wr) (.cells #[.string f.fl.nm, .slice Av f.fl.l.length cv, .int .i64 ((f.fl.s : Nat) : Int)] 58)
        have HFN := Lib.hid hfn
        have HBN := Lib.hid hbn
        have hr8 := (hr9.up hbn).up (bwalloc (bwrefl _) (.cells #[] 5))
        have hlt9 : (f.fl.l.take f.fl.s).length = f.fl.s := by simp; omega
        have hl9 : ([] : List UInt8).length + (f.fl.l.take f.fl.s).length ≤ 140737488355328 := by rw [hlt9]; simp; omega
        have hmc : f.fl.s ≤ cv := by omega
        have hoD := HC.out.o
        have hsz9 : (wr.alloc (.cells #[.string f.fl.nm, .slice Av f.fl.l.length cv, .int .i64 ((f.fl.s : Nat) : Int)] 58)).heap.size = wr.heap.size + 1 := by simp
        have oE : Ow ((wr.alloc (.cells #[.string f.fl.nm, .slice Av f.fl.l.length cv, .int .i64 ((f.fl.s : Nat) : Int)] 58)).alloc (.cells #[] 5)) (wr.heap.size + 1) 5 (.slice (some ⟨wr.heap.size + 1, 0, none⟩) 0 0) (([] : List UInt8).map bv) := by
          have := Ow.empty (wr.alloc (.cells #[.string f.fl.nm, .slice Av f.fl.l.length cv, .int .i64 ((f.fl.s : Nat) : Int)] 58)) (Nat.le_refl _) 5
          rw [hsz9] at this
          exact this
        have bE : Below (wr.alloc (.cells #[.string f.fl.nm, .slice Av f.fl.l.length cv, .int .i64 ((f.fl.s : Nat) : Int)] 58)).heap.size (wr.alloc (.cells #[.string f.fl.nm, .slice Av f.fl.l.length cv, .int .i64 ((f.fl.s : Nat) : Int)] 58)) ((wr.alloc (.cells #[.string f.fl.nm, .slice Av f.fl.l.length cv, .int .i64 ((f.fl.s : Nat) : Int)] 58)).alloc (.cells #[] 5)) := bwalloc (bwrefl _) _
        have sE : wr.heap.size + 1 ≤ ((wr.alloc (.cells #[.string f.fl.nm, .slice Av f.fl.l.length cv, .int .i64 ((f.fl.s : Nat) : Int)] 58)).alloc (.cells #[] 5)).heap.size := by simp
        have HS9 := Lib.hid hsz9
        have hkf : keepF f.fl 0 = ⟨f.fl.nm, f.fl.l.take f.fl.s, f.fl.s⟩ := rfl
        have HKF := Lib.hid hkf
        have hrd5 : ∀ (w3 : World) (A3 : Option Addr) (c3 : Nat), RdC ((w3.setCell ⟨wr.heap.size, 1, none⟩ (.slice A3 f.fl.s c3)).alloc (.cells #[.string f.fl.nm, .slice A3 f.fl.s c3, .int .i64 ((f.fl.s : Nat) : Int)] 58)) [] (.slice (some ⟨w3.heap.size, 0, none⟩) 1 1) [⟨⟨f.fl.nm, f.fl.l.take f.fl.s, f.fl.s⟩, .slice A3 f.fl.s c3⟩] := fun w3 A3 c3 => by
          have q := RdC.one (w3.setCell ⟨wr.heap.size, 1, none⟩ (.slice A3 f.fl.s c3)) [] ⟨⟨f.fl.nm, f.fl.l.take f.fl.s, f.fl.s⟩, .slice A3 f.fl.s c3⟩ (by simp) 58
          have e : (w3.setCell ⟨wr.heap.size, 1, none⟩ (.slice A3 f.fl.s c3)).heap.size = w3.heap.size := by simp [World.setCell]
          rw [e] at q
          exact q
        have HRD5 := Lib.hid hrd5
        have hlD : D.length + 1 ≤ 1000000000 := by have := HC.out.len; omega
        clear hr9 hfn hbn hh3 hh4 hsz9 hkf hrd5
        go_wp2_with (first
          | (at_builtin; refine wpList_appB bytesT rfl (.tmp 110) (.tmp 115) rfl rfl oE rfl hr8 hl9 sE ?_; intro v3 w3 ho3 hg3 hob; clear hob; have HB3 := Lib.hid (bE.grown hg3 bE.size (fun q hq => by have := (oE.lt q hq).1; rw [HS9.out]; exact this)); obtain ⟨A3, c3, ev3, hc3, hm3⟩ := ho3.rd.shapeM; rw [List.nil_append] at ev3 ho3; rw [hlt9] at ev3; subst ev3; have HF3 := Lib.hid (HFN.out.bel HB3.out); obtain ⟨f0, f1, f2, z0, z1, z2⟩ : _ ∧ _ ∧ _ ∧ _ ∧ _ ∧ _ := ⟨HF3.out.f0, HF3.out.f1, HF3.out.f2, HF3.out.z0, HF3.out.z1, HF3.out.z2⟩; have HO3 := Lib.hid ho3; have hb4 := ((bwstep HBN.out HB3.out).setCell (p := ⟨wr.heap.size, 1, none⟩) (Nat.le_refl _) (.slice A3 f.fl.s c3)); have hb5 := bwalloc hb4 (.cells #[.string f.fl.nm, .slice A3 f.fl.s c3, .int .i64 ((f.fl.s : Nat) : Int)] 58); have HB5 := Lib.hid hb5; have od5 := hoD.below hb5; have rd5 := HRD5.out w3 A3 c3; have s5 := Nat.le_trans HC.out.bel.size hb5.size; clear hg3 ho3 hb4 hb5)
          | (at_builtin; refine wpList_appF rfl (.tmp 118) (.tmp 120) rfl rfl od5 rfl rd5 (fun g hg => by rw [List.mem_singleton.1 hg]; rfl) hlD s5 ?_; intro v6 w6 o6 g6 h6; have HO6 := Lib.hid o6; have HG6 := Lib.hid g6; have HH6 := Lib.hid h6; clear o6 g6 h6 od5 rd5))
        go_roundw
        case rel =>
          refine ⟨k + 1, nx, _, by omega, hnx, by go_num, rfl, Lib.hid (HC.out.one HFK.out HCR.out hnx HB5.out ?_ (by rw [HKF.out]; exact HO6.out) HG6.out HH6.out)⟩
          rw [HKF.out]
          have k3 : Kp [wr.heap.size] w3 (w3.setCell ⟨wr.heap.size, 1, none⟩ (.slice A3 f.fl.s c3)) := Kp.set _ (p := ⟨wr.heap.size, 1, none⟩) (by simp) _
          have o4 := (HO3.out.kpS k3 (fun q hq => by rw [List.mem_singleton.1 hq]; simp)).below (bwalloc (bwrefl _) (.cells #[.string f.fl.nm, .slice A3 f.fl.s c3, .int .i64 ((f.fl.s : Nat) : Int)] 58))
          have hq : ∀ q ∈ ob u10 ++ S, q < wr.heap.size + 1 := fun q hq => by
            have hw : w.heap.size ≤ wr.heap.size := Nat.le_trans HB.out.size HC.out.bel.size
            rcases List.mem_append.1 hq with h1 | h1
            · have := (HC.out.o.lt q (mem_ob.1 h1)).2
              omega
            · have := HS.out q h1
              omega
          exact o4.rdS hq
        case measure => simp [intOf]; omega
      · have h0b : decide ((0 : Int) < (r : Int)) = true := decide_eq_true (by omega)
        have h0i : (0 : Int) < (r : Int) := by omega
        have h0n : 0 < r := by omega
        have HR0 : Hid (rst f.fl ≠ 0) := Lib.hid (by rw [← HR.out]; exact h0)
        clear h0
        by_cases hq : nx < ks.length
        · have hqk : ks[nx]? = some (ks[nx]'hq) := List.getElem?_eq_getElem _
          have hdr : ks.drop nx = ks[nx]'hq :: ks.drop (nx + 1) := List.drop_eq_getElem_cons hq
          obtain ⟨bk, ok, rfl, hbk, hkc⟩ := HK.out.1.cellM (by omega)
          have hk0 := (hbw.cell (p := ⟨bk, ok + nx, none⟩) hbk).trans (hkc nx hq)
          have hk1 := (bwalloc (bwrefl wr) (.cells #[.string f.fl.nm, .slice Av f.fl.l.length cv, .int .i64 (f.fl.s : Int)] 58)).cell (p := ⟨bk, ok + nx, none⟩) (Nat.lt_of_lt_of_le hbk hbw.size)
          have hk2 := hk1.trans hk0
          have hqr := HKR.out _ (List.getElem_mem hq)
          generalize ks[nx]'hq = q at *
          unfold iv at hk2 hk0
          obtain ⟨kn, hke⟩ : ∃ kn, kn = q.natAbs % (rst f.fl + 1) := ⟨_, rfl⟩
          have hknr : kn ≤ r := by rw [HR.out]; have := Nat.mod_lt q.natAbs (show 0 < rst f.fl + 1 by omega); omega
          have HCR : Hid (∀ M : List Fl, crash (f.fl :: M) (ks.drop nx) = keepF f.fl kn :: crash M (ks.drop (nx + 1))) := Lib.hid fun M => by rw [hdr, hke]; exact crash_one q _ HR0.out
          obtain ⟨m, hm9⟩ : ∃ m, m = f.fl.s + kn := ⟨_, rfl⟩
          have HM := Lib.hid hm9
          have hms : (f.fl.s : Int) + (kn : Int) = (m : Int) := by omega
          have hml : m ≤ f.fl.l.length := by omega
          have hx1 : (0 : Int) ≤ (nx : Int) := by omega
          have hx2 : (nx : Int) < (ks.length : Int) := by omega
          have hkb : (kn : Int) ≤ 100000 := by omega
          by_cases hneg : q < 0
          · have hmod : q.tmod ((r : Int) + 1) = -(kn : Int) := by
              have e : q = -((q.natAbs : Nat) : Int) := by omega
              rw [e, Int.neg_tmod, Int.tmod_eq_emod_of_nonneg (by omega), hke, HR.out]
              push_cast
              rfl
            clear hdr hqk hke hm9 hkc hk0 hk1 hqr
            by_cases hk0 : kn = 0
            · subst hk0
              have hmod : q.tmod ((r : Int) + 1) = 0 := by rw [hmod]; rfl
              clear hms hml hkb HM
              have hr9 := (HRF.out.1).cutTo (hi := f.fl.s) (by omega)
              rw [← List.map_take] at hr9
              have hfn := FilC.new wr ⟨⟨f.fl.nm, f.fl.l, f.fl.s⟩, .slice Av f.fl.l.length cv⟩ 58
              have hbn := bwalloc (bwrefl wr) (.cells #[.string f.fl.nm, .slice Av f.fl.l.length cv, .int .i64 ((f.fl.s : Nat) : Int)] 58)
              have HFN := Lib.hid hfn
              have HBN := Lib.hid hbn
              have hr8 := (hr9.up hbn).up (bwalloc (bwrefl _) (.cells #[] 5))
              have hlt9 : (f.fl.l.take f.fl.s).length = f.fl.s := by simp; omega
              have hl9 : ([] : List UInt8).length + (f.fl.l.take f.fl.s).length ≤ 140737488355328 := by rw [hlt9]; simp; omega
              have hmc : f.fl.s ≤ cv := by omega
              have hoD := HC.out.o
              have hsz9 : (wr.alloc (.cells #[.string f.fl.nm, .slice Av f.fl.l.length cv, .int .i64 ((f.fl.s : Nat) : Int)] 58)).heap.size = wr.heap.size + 1 := by simp
              have oE : Ow ((wr.alloc (.cells #[.string f.fl.nm, .slice Av f.fl.l.length cv, .int .i64 ((f.fl.s : Nat) : Int)] 58)).alloc (.cells #[] 5)) (wr.heap.size + 1) 5 (.slice (some ⟨wr.heap.size + 1, 0, none⟩) 0 0) (([] : List UInt8).map bv) := by
                have := Ow.empty (wr.alloc (.cells #[.string f.fl.nm, .slice Av f.fl.l.length cv, .int .i64 ((f.fl.s : Nat) : Int)] 58)) (Nat.le_refl _) 5
                rw [hsz9] at this
                exact this
              have bE : Below (wr.alloc (.cells #[.string f.fl.nm, .slice Av f.fl.l.length cv, .int .i64 ((f.fl.s : Nat) : Int)] 58)).heap.size (wr.alloc (.cells #[.string f.fl.nm, .slice Av f.fl.l.length cv, .int .i64 ((f.fl.s : Nat) : Int)] 58)) ((wr.alloc (.cells #[.string f.fl.nm, .slice Av f.fl.l.length cv, .int .i64 ((f.fl.s : Nat) : Int)] 58)).alloc (.cells #[] 5)) := bwalloc (bwrefl _) _
              have sE : wr.heap.size + 1 ≤ ((wr.alloc (.cells #[.string f.fl.nm, .slice Av f.fl.l.length cv, .int .i64 ((f.fl.s : Nat) : Int)] 58)).alloc (.cells #[] 5)).heap.size := by simp
              have HS9 := Lib.hid hsz9
              have hkf : keepF f.fl 0 = ⟨f.fl.nm, f.fl.l.take f.fl.s, f.fl.s⟩ := rfl
              have HKF := Lib.hid hkf
              have hrd5 : ∀ (w3 : World) (A3 : Option Addr) (c3 : Nat), RdC ((w3.setCell ⟨wr.heap.size, 1, none⟩ (.slice A3 f.fl.s c3)).alloc (.cells #[.string f.fl.nm, .slice A3 f.fl.s c3, .int .i64 ((f.fl.s : Nat) : Int)] 58)) [] (.slice (some ⟨w3.heap.size, 0, none⟩) 1 1) [⟨⟨f.fl.nm, f.fl.l.take f.fl.s, f.fl.s⟩, .slice A3 f.fl.s c3⟩] := fun w3 A3 c3 => by
                have q := RdC.one (w3.setCell ⟨wr.heap.size, 1, none⟩ (.slice A3 f.fl.s c3)) [] ⟨⟨f.fl.nm, f.fl.l.take f.fl.s, f.fl.s⟩, .slice A3 f.fl.s c3⟩ (by simp) 58
                have e : (w3.setCell ⟨wr.heap.size, 1, none⟩ (.slice A3 f.fl.s c3)).heap.size = w3.heap.size := by simp [World.setCell]
                rw [e] at q
                exact q
              have HRD5 := Lib.hid hrd5
              have hlD : D.length + 1 ≤ 1000000000 := by have := HC.out.len; omega
              clear hr9 hfn hbn hh3 hh4 hsz9 hkf hrd5
              go_wp2_with (first
                | (at_builtin; refine wpList_appB bytesT rfl (.tmp 110) (.tmp 115) rfl rfl oE rfl hr8 hl9 sE ?_; intro v3 w3 ho3 hg3 hob; clear hob; have HB3 := Lib.hid (bE.grown hg3 bE.size (fun q hq => by have := (oE.lt q hq).1; rw [HS9.out]; exact this)); obtain ⟨A3, c3, ev3, hc3, hm3⟩ := ho3.rd.shapeM; rw [List.nil_append] at ev3 ho3; rw [hlt9] at ev3; subst ev3; have HF3 := Lib.hid (HFN.out.bel HB3.out); obtain ⟨f0, f1, f2, z0, z1, z2⟩ : _ ∧ _ ∧ _ ∧ _ ∧ _ ∧ _ := ⟨HF3.out.f0, HF3.out.f1, HF3.out.f2, HF3.out.z0, HF3.out.z1, HF3.out.z2⟩; have HO3 := Lib.hid ho3; have hb4 := ((bwstep HBN.out HB3.out).setCell (p := ⟨wr.heap.size, 1, none⟩) (Nat.le_refl _) (.slice A3 f.fl.s c3)); have hb5 := bwalloc hb4 (.cells #[.string f.fl.nm, .slice A3 f.fl.s c3, .int .i64 ((f.fl.s : Nat) : Int)] 58); have HB5 := Lib.hid hb5; have od5 := hoD.below hb5; have rd5 := HRD5.out w3 A3 c3; have s5 := Nat.le_trans HC.out.bel.size hb5.size; clear hg3 ho3 hb4 hb5)
                | (at_builtin; refine wpList_appF rfl (.tmp 118) (.tmp 120) rfl rfl od5 rfl rd5 (fun g hg => by rw [List.mem_singleton.1 hg]; rfl) hlD s5 ?_; intro v6 w6 o6 g6 h6; have HO6 := Lib.hid o6; have HG6 := Lib.hid g6; have HH6 := Lib.hid h6; clear o6 g6 h6 od5 rd5))
              go_roundw
              case rel =>
                refine ⟨k + 1, nx + 1, _, by omega, (by omega), by go_num, by go_num, Lib.hid (HC.out.one HFK.out HCR.out (by omega) HB5.out ?_ (by rw [HKF.out]; exact HO6.out) HG6.out HH6.out)⟩
                rw [HKF.out]
                have k3 : Kp [wr.heap.size] w3 (w3.setCell ⟨wr.heap.size, 1, none⟩ (.slice A3 f.fl.s c3)) := Kp.set _ (p := ⟨wr.heap.size, 1, none⟩) (by simp) _
                have o4 := (HO3.out.kpS k3 (fun q hq => by rw [List.mem_singleton.1 hq]; simp)).below (bwalloc (bwrefl _) (.cells #[.string f.fl.nm, .slice A3 f.fl.s c3, .int .i64 ((f.fl.s : Nat) : Int)] 58))
                have hq : ∀ q ∈ ob u10 ++ S, q < wr.heap.size + 1 := fun q hq => by
                  have hw : w.heap.size ≤ wr.heap.size := Nat.le_trans HB.out.size HC.out.bel.size
                  rcases List.mem_append.1 hq with h1 | h1
                  · have := (HC.out.o.lt q (mem_ob.1 h1)).2
                    omega
                  · have := HS.out q h1
                    omega
                exact o4.rdS hq
              case measure => simp [intOf]; omega
            · have hkp : 0 < kn := by omega
              have hkq : (0 : Int) < (kn : Int) := by omega
              have hr9 := (HRF.out.1).cutTo (hi := m) (by omega)
              rw [← List.map_take] at hr9
              have hfn := FilC.new wr ⟨⟨f.fl.nm, f.fl.l, m⟩, .slice Av f.fl.l.length cv⟩ 58
              have hbn := bwalloc (bwrefl wr) (.cells #[.string f.fl.nm, .slice Av f.fl.l.length cv, .int .i64 ((m : Nat) : Int)] 58)
              have HFN := Lib.hid hfn
              have HBN := Lib.hid hbn
              have hr8 := (hr9.up hbn).up (bwalloc (bwrefl _) (.cells #[] 5))
              have hlt9 : (f.fl.l.take m).length = m := by simp; omega
              have hl9 : ([] : List UInt8).length + (f.fl.l.take m).length ≤ 140737488355328 := by rw [hlt9]; simp; omega
              have hmc : m ≤ cv := by omega
              have hoD := HC.out.o
              have hsz9 : (wr.alloc (.cells #[.string f.fl.nm, .slice Av f.fl.l.length cv, .int .i64 ((m : Nat) : Int)] 58)).heap.size = wr.heap.size + 1 := by simp
              have oE : Ow ((wr.alloc (.cells #[.string f.fl.nm, .slice Av f.fl.l.length cv, .int .i64 ((m : Nat) : Int)] 58)).alloc (.cells #[] 5)) (wr.heap.size + 1) 5 (.slice (some ⟨wr.heap.size + 1, 0, none⟩) 0 0) (([] : List UInt8).map bv) := by
                have := Ow.empty (wr.alloc (.cells #[.string f.fl.nm, .slice Av f.fl.l.length cv, .int .i64 ((m : Nat) : Int)] 58)) (Nat.le_refl _) 5
                rw [hsz9] at this
                exact this
              have bE : Below (wr.alloc (.cells #[.string f.fl.nm, .slice Av f.fl.l.length cv, .int .i64 ((m : Nat) : Int)] 58)).heap.size (wr.alloc (.cells #[.string f.fl.nm, .slice Av f.fl.l.length cv, .int .i64 ((m : Nat) : Int)] 58)) ((wr.alloc (.cells #[.string f.fl.nm, .slice Av f.fl.l.length cv, .int .i64 ((m : Nat) : Int)] 58)).alloc (.cells #[] 5)) := bwalloc (bwrefl _) _
              have sE : wr.heap.size + 1 ≤ ((wr.alloc (.cells #[.string f.fl.nm, .slice Av f.fl.l.length cv, .int .i64 ((m : Nat) : Int)] 58)).alloc (.cells #[] 5)).heap.size := by simp
              have HS9 := Lib.hid hsz9
              have hkf : keepF f.fl kn = ⟨f.fl.nm, f.fl.l.take m, m⟩ := by unfold keepF; rw [← HM.out]
              have HKF := Lib.hid hkf
              have hrd5 : ∀ (w3 : World) (A3 : Option Addr) (c3 : Nat), RdC ((w3.setCell ⟨wr.heap.size, 1, none⟩ (.slice A3 m c3)).alloc (.cells #[.string f.fl.nm, .slice A3 m c3, .int .i64 ((m : Nat) : Int)] 58)) [] (.slice (some ⟨w3.heap.size, 0, none⟩) 1 1) [⟨⟨f.fl.nm, f.fl.l.take m, m⟩, .slice A3 m c3⟩] := fun w3 A3 c3 => by
                have q := RdC.one (w3.setCell ⟨wr.heap.size, 1, none⟩ (.slice A3 m c3)) [] ⟨⟨f.fl.nm, f.fl.l.take m, m⟩, .slice A3 m c3⟩ (by simp) 58
                have e : (w3.setCell ⟨wr.heap.size, 1, none⟩ (.slice A3 m c3)).heap.size = w3.heap.size := by simp [World.setCell]
                rw [e] at q
                exact q
              have HRD5 := Lib.hid hrd5
              have hlD : D.length + 1 ≤ 1000000000 := by have := HC.out.len; omega
              clear hr9 hfn hbn hh3 hh4 hsz9 hkf hrd5
              go_wp2_with (first
                | (at_builtin; refine wpList_appB bytesT rfl (.tmp 110) (.tmp 115) rfl rfl oE rfl hr8 hl9 sE ?_; intro v3 w3 ho3 hg3 hob; clear hob; have HB3 := Lib.hid (bE.grown hg3 bE.size (fun q hq => by have := (oE.lt q hq).1; rw [HS9.out]; exact this)); obtain ⟨A3, c3, ev3, hc3, hm3⟩ := ho3.rd.shapeM; rw [List.nil_append] at ev3 ho3; rw [hlt9] at ev3; subst ev3; have HF3 := Lib.hid (HFN.out.bel HB3.out); obtain ⟨f0, f1, f2, z0, z1, z2⟩ : _ ∧ _ ∧ _ ∧ _ ∧ _ ∧ _ := ⟨HF3.out.f0, HF3.out.f1, HF3.out.f2, HF3.out.z0, HF3.out.z1, HF3.out.z2⟩; have HO3 := Lib.hid ho3; have hb4 := ((bwstep HBN.out HB3.out).setCell (p := ⟨wr.heap.size, 1, none⟩) (Nat.le_refl _) (.slice A3 m c3)); have hb5 := bwalloc hb4 (.cells #[.string f.fl.nm, .slice A3 m c3, .int .i64 ((m : Nat) : Int)] 58); have HB5 := Lib.hid hb5; have od5 := hoD.below hb5; have rd5 := HRD5.out w3 A3 c3; have s5 := Nat.le_trans HC.out.bel.size hb5.size; clear hg3 ho3 hb4 hb5)
                | (at_builtin; refine wpList_appF rfl (.tmp 118) (.tmp 120) rfl rfl od5 rfl rd5 (fun g hg => by rw [List.mem_singleton.1 hg]; rfl) hlD s5 ?_; intro v6 w6 o6 g6 h6; have HO6 := Lib.hid o6; have HG6 := Lib.hid g6; have HH6 := Lib.hid h6; clear o6 g6 h6 od5 rd5))
              go_roundw
              case rel =>
                refine ⟨k + 1, nx + 1, _, by omega, (by omega), by go_num, by go_num, Lib.hid (HC.out.one HFK.out HCR.out (by omega) HB5.out ?_ (by rw [HKF.out]; exact HO6.out) HG6.out HH6.out)⟩
                rw [HKF.out]
                have k3 : Kp [wr.heap.size] w3 (w3.setCell ⟨wr.heap.size, 1, none⟩ (.slice A3 m c3)) := Kp.set _ (p := ⟨wr.heap.size, 1, none⟩) (by simp) _
                have o4 := (HO3.out.kpS k3 (fun q hq => by rw [List.mem_singleton.1 hq]; simp)).below (bwalloc (bwrefl _) (.cells #[.string f.fl.nm, .slice A3 m c3, .int .i64 ((m : Nat) : Int)] 58))
                have hq : ∀ q ∈ ob u10 ++ S, q < wr.heap.size + 1 := fun q hq => by
                  have hw : w.heap.size ≤ wr.heap.size := Nat.le_trans HB.out.size HC.out.bel.size
                  rcases List.mem_append.1 hq with h1 | h1
                  · have := (HC.out.o.lt q (mem_ob.1 h1)).2
                    omega
                  · have := HS.out q h1
                    omega
                exact o4.rdS hq
              case measure => simp [intOf]; omega
          · have e9 : q = ((q.natAbs : Nat) : Int) := by omega
            have hmod2 : q % ((r : Int) + 1) = (kn : Int) := by
              rw [hke, HR.out]
              rw [e9]
              push_cast
              simp
            have hmod : q.tmod ((r : Int) + 1) = (kn : Int) := by
              rw [Int.tmod_eq_emod_of_nonneg (by omega)]
              exact hmod2
            have hq0 : 0 ≤ q := by omega
            have hkq : ¬ (kn : Int) < 0 := by omega
            clear hdr hqk hke hm9 hkc hk0 hk1 hqr e9
            have hr9 := (HRF.out.1).cutTo (hi := m) (by omega)
            rw [← List.map_take] at hr9
            have hfn := FilC.new wr ⟨⟨f.fl.nm, f.fl.l, m⟩, .slice Av f.fl.l.length cv⟩ 58
            have hbn := bwalloc (bwrefl wr) (.cells #[.string f.fl.nm, .slice Av f.fl.l.length cv, .int .i64 ((m : Nat) : Int)] 58)
            have HFN := Lib.hid hfn
            have HBN := Lib.hid hbn
            have hr8 := (hr9.up hbn).up (bwalloc (bwrefl _) (.cells #[] 5))
            have hlt9 : (f.fl.l.take m).length = m := by simp; omega
            have hl9 : ([] : List UInt8).length + (f.fl.l.take m).length ≤ 140737488355328 := by rw [hlt9]; simp; omega
            have hmc : m ≤ cv := by omega
            have hoD := HC.out.o
            have hsz9 : (wr.alloc (.cells #[.string f.fl.nm, .slice Av f.fl.l.length cv, .int .i64 ((m : Nat) : Int)] 58)).heap.size = wr.heap.size + 1 := by simp
            have oE : Ow ((wr.alloc (.cells #[.string f.fl.nm, .slice Av f.fl.l.length cv, .int .i64 ((m : Nat) : Int)] 58)).alloc (.cells #[] 5)) (wr.heap.size + 1) 5 (.slice (some ⟨wr.heap.size + 1, 0, none⟩) 0 0) (([] : List UInt8).map bv) := by
              have := Ow.empty (wr.alloc (.cells #[.string f.fl.nm, .slice Av f.fl.l.length cv, .int .i64 ((m : Nat) : Int)] 58)) (Nat.le_refl _) 5
              rw [hsz9] at this
              exact this
            have bE : Below (wr.alloc (.cells #[.string f.fl.nm, .slice Av f.fl.l.length cv, .int .i64 ((m : Nat) : Int)] 58)).heap.size (wr.alloc (.cells #[.string f.fl.nm, .slice Av f.fl.l.length cv, .int .i64 ((m : Nat) : Int)] 58)) ((wr.alloc (.cells #[.string f.fl.nm, .slice Av f.fl.l.length cv, .int .i64 ((m : Nat) : Int)] 58)).alloc (.cells #[] 5)) := bwalloc (bwrefl _) _
            have sE : wr.heap.size + 1 ≤ ((wr.alloc (.cells #[.string f.fl.nm, .slice Av f.fl.l.length cv, .int .i64 ((m : Nat) : Int)] 58)).alloc (.cells #[] 5)).heap.size := by simp
            have HS9 := Lib.hid hsz9
            have hkf : keepF f.fl kn = ⟨f.fl.nm, f.fl.l.take m, m⟩ := by unfold keepF; rw [← HM.out]
            have HKF := Lib.hid hkf
            have hrd5 : ∀ (w3 : World) (A3 : Option Addr) (c3 : Nat), RdC ((w3.setCell ⟨wr.heap.size, 1, none⟩ (.slice A3 m c3)).alloc (.cells #[.string f.fl.nm, .slice A3 m c3, .int .i64 ((m : Nat) : Int)] 58)) [] (.slice (some ⟨w3.heap.size, 0, none⟩) 1 1) [⟨⟨f.fl.nm, f.fl.l.take m, m⟩, .slice A3 m c3⟩] := fun w3 A3 c3 => by
              have q := RdC.one (w3.setCell ⟨wr.heap.size, 1, none⟩ (.slice A3 m c3)) [] ⟨⟨f.fl.nm, f.fl.l.take m, m⟩, .slice A3 m c3⟩ (by simp) 58
              have e : (w3.setCell ⟨wr.heap.size, 1, none⟩ (.slice A3 m c3)).heap.size = w3.heap.size := by simp [World.setCell]
              rw [e] at q
              exact q
            have HRD5 := Lib.hid hrd5
            have hlD : D.length + 1 ≤ 1000000000 := by have := HC.out.len; omega
            clear hr9 hfn hbn hh3 hh4 hsz9 hkf hrd5
            go_wp2_with (first
              | (at_builtin; refine wpList_appB bytesT rfl (.tmp 110) (.tmp 115) rfl rfl oE rfl hr8 hl9 sE ?_; intro v3 w3 ho3 hg3 hob; clear hob; have HB3 := Lib.hid (bE.grown hg3 bE.size (fun q hq => by have := (oE.lt q hq).1; rw [HS9.out]; exact this)); obtain ⟨A3, c3, ev3, hc3, hm3⟩ := ho3.rd.shapeM; rw [List.nil_append] at ev3 ho3; rw [hlt9] at ev3; subst ev3; have HF3 := Lib.hid (HFN.out.bel HB3.out); obtain ⟨f0, f1, f2, z0, z1, z2⟩ : _ ∧ _ ∧ _ ∧ _ ∧ _ ∧ _ := ⟨HF3.out.f0, HF3.out.f1, HF3.out.f2, HF3.out.z0, HF3.out.z1, HF3.out.z2⟩; have HO3 := Lib.hid ho3; have hb4 := ((bwstep HBN.out HB3.out).setCell (p := ⟨wr.heap.size, 1, none⟩) (Nat.le_refl _) (.slice A3 m c3)); have hb5 := bwalloc hb4 (.cells #[.string f.fl.nm, .slice A3 m c3, .int .i64 ((m : Nat) : Int)] 58); have HB5 := Lib.hid hb5; have od5 := hoD.below hb5; have rd5 := HRD5.out w3 A3 c3; have s5 := Nat.le_trans HC.out.bel.size hb5.size; clear hg3 ho3 hb4 hb5)
              | (at_builtin; refine wpList_appF rfl (.tmp 118) (.tmp 120) rfl rfl od5 rfl rd5 (fun g hg => by rw [List.mem_singleton.1 hg]; rfl) hlD s5 ?_; intro v6 w6 o6 g6 h6; have HO6 := Lib.hid o6; have HG6 := Lib.hid g6; have HH6 := Lib.hid h6; clear o6 g6 h6 od5 rd5))
            go_roundw
            case rel =>
              refine ⟨k + 1, nx + 1, _, by omega, (by omega), by go_num, by go_num, Lib.hid (HC.out.one HFK.out HCR.out (by omega) HB5.out ?_ (by rw [HKF.out]; exact HO6.out) HG6.out HH6.out)⟩
              rw [HKF.out]
              have k3 : Kp [wr.heap.size] w3 (w3.setCell ⟨wr.heap.size, 1, none⟩ (.slice A3 m c3)) := Kp.set _ (p := ⟨wr.heap.size, 1, none⟩) (by simp) _
              have o4 := (HO3.out.kpS k3 (fun q hq => by rw [List.mem_singleton.1 hq]; simp)).below (bwalloc (bwrefl _) (.cells #[.string f.fl.nm, .slice A3 m c3, .int .i64 ((m : Nat) : Int)] 58))
              have hq : ∀ q ∈ ob u10 ++ S, q < wr.heap.size + 1 := fun q hq => by
                have hw : w.heap.size ≤ wr.heap.size := Nat.le_trans HB.out.size HC.out.bel.size
                rcases List.mem_append.1 hq with h1 | h1
                · have := (HC.out.o.lt q (mem_ob.1 h1)).2
                  omega
                · have := HS.out q h1
                  omega
              exact o4.rdS hq
            case measure => simp [intOf]; omega
        · have HCR : Hid (∀ M : List Fl, crash (f.fl :: M) (ks.drop nx) = keepF f.fl 0 :: crash M (ks.drop nx)) := Lib.hid fun M => by rw [List.drop_eq_nil_of_le (by omega)]; exact crash_none HR0.out
          have hq1 : ¬ ((nx : Int) < (ks.length : Int)) := by omega
          have hr9 := (HRF.out.1).cutTo (hi := f.fl.s) (by omega)
          rw [← List.map_take] at hr9
          have hfn := FilC.new wr ⟨⟨f.fl.nm, f.fl.l, f.fl.s⟩, .slice Av f.fl.l.length cv⟩ 58
          have hbn := bwalloc (bwrefl wr) (.cells #[.string f.fl.nm, .slice Av f.fl.l.length cv, .int .i64 ((f.fl.s : Nat) : Int)] 58)
          have HFN := Lib.hid hfn
          have HBN := Lib.hid hbn
          have hr8 := (hr9.up hbn).up (bwalloc (bwrefl _) (.cells #[] 5))
          have hlt9 : (f.fl.l.take f.fl.s).length = f.fl.s := by simp; omega
          have hl9 : ([] : List UInt8).length + (f.fl.l.take f.fl.s).length ≤ 140737488355328 := by rw [hlt9]; simp; omega
          have hmc : f.fl.s ≤ cv := by omega
          have hoD := HC.out.o
          have hsz9 : (wr.alloc (.cells #[.string f.fl.nm, .slice Av f.fl.l.length cv, .int .i64 ((f.fl.s : Nat) : Int)] 58)).heap.size = wr.heap.size + 1 := by simp
          have oE : Ow ((wr.alloc (.cells #[.string f.fl.nm, .slice Av f.fl.l.length cv, .int .i64 ((f.fl.s : Nat) : Int)] 58)).alloc (.cells #[] 5)) (wr.heap.size + 1) 5 (.slice (some ⟨wr.heap.size + 1, 0, none⟩) 0 0) (([] : List UInt8).map bv) := by
            have := Ow.empty (wr.alloc (.cells #[.string f.fl.nm, .slice Av f.fl.l.length cv, .int .i64 ((f.fl.s : Nat) : Int)] 58)) (Nat.le_refl _) 5
            rw [hsz9] at this
            exact this
          have bE : Below (wr.alloc (.cells #[.string f.fl.nm, .slice Av f.fl.l.length cv, .int .i64 ((f.fl.s : Nat) : Int)] 58)).heap.size (wr.alloc (.cells #[.string f.fl.nm, .slice Av f.fl.l.length cv, .int .i64 ((f.fl.s : Nat) : Int)] 58)) ((wr.alloc (.cells #[.string f.fl.nm, .slice Av f.fl.l.length cv, .int .i64 ((f.fl.s : Nat) : Int)] 58)).alloc (.cells #[] 5)) := bwalloc (bwrefl _) _
          have sE : wr.heap.size + 1 ≤ ((wr.alloc (.cells #[.string f.fl.nm, .slice Av f.fl.l.length cv, .int .i64 ((f.fl.s : Nat) : Int)] 58)).alloc (.cells #[] 5)).heap.size := by simp
          have HS9 := Lib.hid hsz9
          have hkf : keepF f.fl 0 = ⟨f.fl.nm, f.fl.l.take f.fl.s, f.fl.s⟩ := rfl
          have HKF := Lib.hid hkf
          have hrd5 : ∀ (w3 : World) (A3 : Option Addr) (c3 : Nat), RdC ((w3.setCell ⟨wr.heap.size, 1, none⟩ (.slice A3 f.fl.s c3)).alloc (.cells #[.string f.fl.nm, .slice A3 f.fl.s c3, .int .i64 ((f.fl.s : Nat) : Int)] 58)) [] (.slice (some ⟨w3.heap.size, 0, none⟩) 1 1) [⟨⟨f.fl.nm, f.fl.l.take f.fl.s, f.fl.s⟩, .slice A3 f.fl.s c3⟩] := fun w3 A3 c3 => by
            have q := RdC.one (w3.setCell ⟨wr.heap.size, 1, none⟩ (.slice A3 f.fl.s c3)) [] ⟨⟨f.fl.nm, f.fl.l.take f.fl.s, f.fl.s⟩, .slice A3 f.fl.s c3⟩ (by simp) 58
            have e : (w3.setCell ⟨wr.heap.size, 1, none⟩ (.slice A3 f.fl.s c3)).heap.size = w3.heap.size := by simp [World.setCell]
            rw [e] at q
            exact q
          have HRD5 := Lib.hid hrd5
          have hlD : D.length + 1 ≤ 1000000000 := by have := HC.out.len; omega
          clear hr9 hfn hbn hh3 hh4 hsz9 hkf hrd5
          go_wp2_with (first
            | (at_builtin; refine wpList_appB bytesT rfl (.tmp 110) (.tmp 115) rfl rfl oE rfl hr8 hl9 sE ?_; intro v3 w3 ho3 hg3 hob; clear hob; have HB3 := Lib.hid (bE.grown hg3 bE.size (fun q hq => by have := (oE.lt q hq).1; rw [HS9.out]; exact this)); obtain ⟨A3, c3, ev3, hc3, hm3⟩ := ho3.rd.shapeM; rw [List.nil_append] at ev3 ho3; rw [hlt9] at ev3; subst ev3; have HF3 := Lib.hid (HFN.out.bel HB3.out); obtain ⟨f0, f1, f2, z0, z1, z2⟩ : _ ∧ _ ∧ _ ∧ _ ∧ _ ∧ _ := ⟨HF3.out.f0, HF3.out.f1, HF3.out.f2, HF3.out.z0, HF3.out.z1, HF3.out.z2⟩; have HO3 := Lib.hid ho3; have hb4 := ((bwstep HBN.out HB3.out).setCell (p := ⟨wr.heap.size, 1, none⟩) (Nat.le_refl _) (.slice A3 f.fl.s c3)); have hb5 := bwalloc hb4 (.cells #[.string f.fl.nm, .slice A3 f.fl.s c3, .int .i64 ((f.fl.s : Nat) : Int)] 58); have HB5 := Lib.hid hb5; have od5 := hoD.below hb5; have rd5 := HRD5.out w3 A3 c3; have s5 := Nat.le_trans HC.out.bel.size hb5.size; clear hg3 ho3 hb4 hb5)
            | (at_builtin; refine wpList_appF rfl (.tmp 118) (.tmp 120) rfl rfl od5 rfl rd5 (fun g hg => by rw [List.mem_singleton.1 hg]; rfl) hlD s5 ?_; intro v6 w6 o6 g6 h6; have HO6 := Lib.hid o6; have HG6 := Lib.hid g6; have HH6 := Lib.hid h6; clear o6 g6 h6 od5 rd5))
          go_roundw
          case rel =>
            refine ⟨k + 1, nx, _, by omega, hnx, by go_num, rfl, Lib.hid (HC.out.one HFK.out HCR.out hnx HB5.out ?_ (by rw [HKF.out]; exact HO6.out) HG6.out HH6.out)⟩
            rw [HKF.out]
            have k3 : Kp [wr.heap.size] w3 (w3.setCell ⟨wr.heap.size, 1, none⟩ (.slice A3 f.fl.s c3)) := Kp.set _ (p := ⟨wr.heap.size, 1, none⟩) (by simp) _
            have o4 := (HO3.out.kpS k3 (fun q hq => by rw [List.mem_singleton.1 hq]; simp)).below (bwalloc (bwrefl _) (.cells #[.string f.fl.nm, .slice A3 f.fl.s c3, .int .i64 ((f.fl.s : Nat) : Int)] 58))
            have hq : ∀ q ∈ ob u10 ++ S, q < wr.heap.size + 1 := fun q hq => by
              have hw : w.heap.size ≤ wr.heap.size := Nat.le_trans HB.out.size HC.out.bel.size
              rcases List.mem_append.1 hq with h1 | h1
              · have := (HC.out.o.lt q (mem_ob.1 h1)).2
                omega
              · have := HS.out q h1
                omega
            exact o4.rdS hq
          case measure => simp [intOf]; omega
    · obtain rfl : k = L.length := by omega
      have hcr := HC.out.cr
      rw [List.drop_length] at hcr
      simp only [List.map_nil, crash, List.append_nil] at hcr
      have HCR := Lib.hid hcr
      clear hcr hbw
      go_wp2_with fail
      go_ret2
      exact ⟨⟨_, D, rfl, ⟨HC.out.o.rdC (fun q hq => by have := HS.out q hq; have := HB.out.size; omega), fun g hg => ⟨(HC.out.b g hg).1, fun hp q hq hm => (HC.out.b g hg).2 hp q hq (by simp [hm])⟩⟩, HCR.out.symm⟩, bwstep HB.out HC.out.bel⟩
end Go.Proofs.Ytblejjjifokmgaa
