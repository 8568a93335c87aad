/- The contract of package disk's Crash. -/
import Derived.Test.YtblejjjifokmgaaDskH
import Derived.Test.YtblejjjifokmgaaSls
namespace Go.Proofs.Ytblejjjifokmgaa
open Go.RowKit Go.Maps Dk

/-- how much of a file isn't synced -/
def rst (f : Fl) : Nat := f.l.length - f.s
/-- what a crash leaves of a file -/
def keepF (f : Fl) (n : Nat) : Fl := { f with l := f.l.take (f.s + n), s := f.s + n }
def crash : List Fl → List Int → List Fl
  | [], _ => []
  | f :: M, ks => if rst f = 0 then keepF f 0 :: crash M ks else
      match ks with
      | [] => keepF f 0 :: crash M []
      | q :: r => keepF f (q.natAbs % (rst f + 1)) :: crash M r
theorem crash_skip {f : Fl} {M : List Fl} (ks : List Int) (h : rst f = 0) : crash (f :: M) ks = keepF f 0 :: crash M ks := by cases ks <;> simp [crash, h]
theorem crash_none {f : Fl} {M : List Fl} (h : rst f ≠ 0) : crash (f :: M) [] = keepF f 0 :: crash M [] := by simp [crash, h]
theorem crash_one {f : Fl} {M : List Fl} (q : Int) (r : List Int) (h : rst f ≠ 0) : crash (f :: M) (q :: r) = keepF f (q.natAbs % (rst f + 1)) :: crash M r := by simp [crash, h]
def inR (q : Int) : Prop := -9223372036854775808 ≤ q ∧ q ≤ 9223372036854775807

/-- k files are done -/
structure CrR (w1 : World) (B : Nat) (d : Value) (db mb cap : Nat) (L : List Fr) (ks : List Int) (wr : World) (kp : Value) (k : Nat) (D R : List Fr) (ks' : List Int) : Prop where
  st : Step w1 wr B d db mb cap L (total ((D ++ R).map Fr.fl)) (D ++ R)
  kD : D.length = k
  dr : R = L.drop k
  cr : crash (L.map Fr.fl) ks = D.map Fr.fl ++ crash (R.map Fr.fl) ks'
  rk : RdV wr (fp db mb (D ++ R)) kp (ks'.map iv)
  wf : ∀ q ∈ ks', inR q
  fine : ∀ f ∈ R, f.fl.s ≤ f.fl.l.length
  tot : total ((D ++ R).map Fr.fl) ≤ total (L.map Fr.fl)
section
variable {w1 wr w2 : World} {B : Nat} {d : Value} {db mb cap : Nat} {L D C R : List Fr} {f : Fr} {ks ks' ks2 : List Int} {kp kp2 : Value} {k : Nat}
theorem CrR.up (h : CrR w1 B d db mb cap L ks wr kp k D R ks') (hb : Below wr.heap.size wr w2) : CrR w1 B d db mb cap L ks w2 kp k D R ks' :=
  ⟨h.st.thenB hb, h.kD, h.dr, h.cr, h.rk.up (Kp.of_below hb _) (fun _ hk => .inl hk), h.wf, h.fine, h.tot⟩
theorem CrR.head (h : CrR w1 B d db mb cap L ks wr kp k D R ks') (hk : k < L.length) : ∃ f C, R = f :: C ∧ L[k]? = some f ∧ C = L.drop (k + 1) := by
  refine ⟨L[k], L.drop (k + 1), ?_, List.getElem?_eq_getElem hk, rfl⟩
  rw [h.dr, List.drop_eq_getElem_cons hk]
theorem keepF_full {f : Fl} (h : f.s ≤ f.l.length) (h0 : rst f = 0) : keepF f 0 = f := by
  unfold keepF rst at *
  have : f.s + 0 = f.l.length := by omega
  rw [this, List.take_length]
  cases f
  simp at *
  omega
/-- a file that is synced whole -/
theorem CrR.skip (h : CrR w1 B d db mb cap L ks wr kp k D (f :: C) ks') (h0 : rst f.fl = 0) (hC : C = L.drop (k + 1)) : CrR w1 B d db mb cap L ks wr kp (k + 1) (D ++ [f]) C ks' := by
  have e : (D ++ [f]) ++ C = D ++ f :: C := by simp
  refine ⟨by rw [e]; exact h.st, by simp [h.kD], hC, ?_, by rw [e]; exact h.rk, h.wf, fun g hg => h.fine g (by simp [hg]), by rw [e]; exact h.tot⟩
  rw [h.cr, List.map_cons, crash_skip _ h0, keepF_full (h.fine f (by simp)) h0]
  simp
/-- a file that has been cut -/
theorem CrR.kept {v : Value} {n : Nat} (h : CrR w1 B d db mb cap L ks wr kp k D (f :: C) ks') (hn : n ≤ rst f.fl) (hC : C = L.drop (k + 1))
    (st : Step wr w2 B d db mb cap (D ++ f :: C) (total ((D ++ f :: C).map Fr.fl) - (f.fl.l.length - (f.fl.s + n))) (D ++ { f with v := v, fl := { f.fl with l := f.fl.l.take (f.fl.s + n), s := min f.fl.s (f.fl.s + n) } } :: C))
    (hcr : crash (f.fl :: C.map Fr.fl) ks' = keepF f.fl n :: crash (C.map Fr.fl) ks2) (hrk : RdV wr (fp db mb (D ++ f :: C)) kp2 (ks2.map iv)) (hw : ∀ q ∈ ks2, inR q) :
    CrR w1 B d db mb cap L ks (w2.setCell ⟨f.bl, 1, none⟩ (.int .i64 ((f.fl.s + n : Nat) : Int))) kp2 (k + 1) (D ++ [{ f with v := v, fl := keepF f.fl n }]) C ks2 := by
  have hf := h.fine f (by simp)
  have e : (D ++ [{ f with v := v, fl := keepF f.fl n }]) ++ C = D ++ { f with v := v, fl := keepF f.fl n } :: C := by simp
  have hlen : (f.fl.l.take (f.fl.s + n)).length = f.fl.s + n := by unfold rst at hn; rw [List.length_take]; omega
  have hs := st.trans (Step.synced st.at_ (f.fl.s + n))
  have ht : total ((D ++ f :: C).map Fr.fl) - (f.fl.l.length - (f.fl.s + n)) = total ((D ++ { f with v := v, fl := keepF f.fl n } :: C).map Fr.fl) := by
    simp only [List.map_append, List.map_cons, total_app, total_cons, keepF, hlen]
    unfold rst at hn
    omega
  rw [ht] at hs
  refine ⟨?_, by simp [h.kD], hC, ?_, ?_, hw, fun g hg => h.fine g (by simp [hg]), ?_⟩
  · rw [e]
    exact h.st.trans hs
  · rw [h.cr, List.map_cons, hcr]
    simp
  · rw [e]
    exact hrk.up hs.kp hs.sub
  · rw [e, ← ht]
    have := h.tot
    omega
end
theorem RdV.tl {w : World} {S : List Nat} {b off n c : Nat} {q : Value} {xs : List Value} (h : RdV w S (.slice (some ⟨b, off, none⟩) n c) (q :: xs)) (hc : ¬ c = 1) : RdV w S (.slice (some ⟨b, off + 1, none⟩) (n - 1) (c - 1)) xs := by
  have hn : n = xs.length + 1 := by obtain ⟨A, c', e, _⟩ := h.1; injection e
  exact ⟨h.1.fromC (lo := 1) (by omega) hc, fun _ k hk => h.2 (by simp) k hk⟩
theorem RdV.tl0 {w : World} {S : List Nat} {A : Option Addr} {n : Nat} {q : Value} {xs : List Value} (h : RdV w S (.slice A n 1) (q :: xs)) : RdV w S (.slice A 0 0) xs := by
  have hx : xs = [] := by
    obtain ⟨A, c', e, h1, _⟩ := h.1
    injection e with _ _ e3
    simp at h1
    rw [← e3] at h1
    exact List.eq_nil_of_length_eq_zero (by omega)
  subst hx
  exact ⟨⟨A, 0, rfl, by simp, by simp, fun hp => absurd hp (by simp)⟩, fun hp => absurd hp (by simp)⟩
theorem kept_num {kn : Nat} {q : Int} {f : Fl} (hs : f.s ≤ f.l.length) (hl : f.l.length ≤ 1000000000) (hke : kn = q.natAbs % (rst f + 1)) :
    kn ≤ rst f ∧ wrap64 ((q.natAbs : Int) % ((f.l.length : Int) - (f.s : Int) + 1)) = (kn : Int) ∧ wrap64 ((f.s : Int) + (kn : Int)) = ((f.s + kn : Nat) : Int) := by
  have hkn : kn ≤ rst f := by have := Nat.mod_lt q.natAbs (show 0 < rst f + 1 by omega); omega
  have e1 : (f.l.length : Int) - (f.s : Int) + 1 = ((rst f + 1 : Nat) : Int) := by unfold rst; omega
  have h1 : kn ≤ 1000000000 := by unfold rst at hkn; omega
  have h2 : f.s + kn ≤ 1000000000 := by unfold rst at hkn; omega
  refine ⟨hkn, ?_, ?_⟩
  · rw [e1, ← Int.natCast_emod, ← hke]
    clear e1 hke hkn h2
    exact IntWalk.wrap64_in _ (by omega)
  · clear e1 hke hkn h1
    rw [IntWalk.wrap64_in _ (by omega)]
    omega
theorem DiskAt.cutShape {w : World} {B : Nat} {d : Value} {db mb cap us n : Nat} {A C : List Fr} {f : Fr} {l : List UInt8} (h : DiskAt w B d db mb cap us (A ++ f :: C)) (hl : f.fl.l = l.take n) (hn : n ≤ l.length) :
    ∃ A2 c2, w.cell? ⟨f.bl, 0, none⟩ = some (.slice A2 n c2) ∧ n ≤ c2 ∧ c2 ≤ 9223372036854775807 := by
  have hf : f ∈ A ++ f :: C := by simp
  obtain ⟨A2, c2, e, h1, h2⟩ := (h.own f hf).rd.shapeM
  have hlen : f.fl.l.length = n := by rw [hl, List.length_take]; omega
  rw [hlen] at e h1
  exact ⟨A2, c2, by rw [h.g0 hf, e], h1, h2⟩
set_option maxHeartbeats 2000000 in
set_option maxRecDepth 100000 in
theorem crash_any {w : World} {B : Nat} {d kv : Value} {db mb cap us : Nat} {L : List Fr} {ks : List Int} (h : DiskAt w B d db mb cap us L) (hL : L.length ≤ 1000000000) (hB : B ≤ w.heap.size) (hnm : ∀ f ∈ L, f.fl.nm.size ≤ 1000000000) (hu : us = total (L.map Fr.fl)) (hus : us ≤ 1000000000)
    (hfine : ∀ f ∈ L, f.fl.s ≤ f.fl.l.length) (hk : RdV w (fp db mb L) kv (ks.map iv)) (hw : ∀ q ∈ ks, inR q) :
    Calls Try.prog 16 #[d, kv] w fun e w' => e = .returned (.tuple #[]) ∧ ∃ L', Step w w' B d db mb cap L (total (L'.map Fr.fl)) L' ∧ L'.map Fr.fl = crash (L.map Fr.fl) ks := by
  obtain rfl := h.hd
  subst hu
  have hnames := names_any h hL
  have H := Lib.hid h
  have HF := Lib.hid hfine
  have HW := Lib.hid hw
  have HN := Lib.hid hnm
  have HK := Lib.hid hk
  clear h hfine hw hnm hk
  go_enter Try.func16, Try.ntmps16
  go_wp2_with fail
  refine hnames.mono ?_
  rintro e w1 ⟨⟨nv, rfl, hno⟩, hb1⟩
  obtain ⟨An, cn, en, hcn, hmn⟩ := hno.rd.shapeM
  rw [List.length_map] at en hcn
  subst en
  unfold maxLen at hmn
  have st1 := Step.bel H.out hb1
  have hnv : RdV w1 (fp db mb L) (.slice An L.length cn) ((L.map fun f => f.fl.nm).map sv) := ⟨hno.rd, fun _ k hx hm => by have := H.out.lt k hm; have := hno.ge k hx; omega⟩
  have hr0 : CrR w1 B (.pointer (some ⟨db, 0, none⟩)) db mb cap L ks w1 kv 0 [] L ks := ⟨Step.refl st1.at_, rfl, rfl, rfl, HK.out.up st1.kp st1.sub, HW.out, HF.out, Nat.le_refl _⟩
  have hB1 := Nat.le_trans hB st1.kp.size
  have ST := Lib.hid st1
  have HV := Lib.hid hnv
  have HR := Lib.hid hr0
  clear hnames hno hb1 st1 hnv hr0
  go_wp2_with fail
  go_loopw [1, 12] (fun kp i wr => ∃ (k : Nat) (D R : List Fr) (ks' : List Int), k ≤ L.length ∧ i = .int .i64 (k : Int) ∧ CrR w1 B (.pointer (some ⟨db, 0, none⟩)) db mb cap L ks wr kp k D R ks') (fun _ i _ => L.length - (intOf i).toNat)
  case atStart => exact ⟨0, [], L, ks, Nat.zero_le _, rfl, HR.out⟩
  case round =>
    obtain ⟨k, D, R, ks', hk, rfl, hrel⟩ := hrel
    by_cases hlt : k < L.length
    · obtain ⟨f, C, rfl, hLk, hC⟩ := hrel.head hlt
      have hd := hrel.st.at_
      have hf : f ∈ D ++ f :: C := by simp
      have c2 := hd.c2
      have hfL : f ∈ L := List.mem_of_getElem? hLk
      have hl := hd.look (s := f.fl.nm) (by have := HN.out f hfL; unfold maxLen; omega)
      rw [show fnd fk f.fl.nm.data.toList (D ++ f :: C) = some f from fnd_of_mem hd.srt hf] at hl
      simp only [Option.map_some, ptrOf] at hl
      obtain ⟨b, off, rfl, -, hcell⟩ := (HV.out.1.kp HV.out.2 hrel.st.kp).cellM (by rw [List.length_map]; omega)
      have hc := hcell k (by rw [List.length_map]; exact hlt)
      clear hcell
      rw [List.getElem_map, (List.getElem?_eq_some_iff.1 hLk).2] at hc
      simp only [sv] at hc
      have g0 := hd.g0 hf
      have g1 := hd.g1 hf
      have hfs := hrel.fine f (by simp)
      obtain ⟨Av, c, ev, hcv, hmv⟩ := (hd.own f hf).rd.shapeM
      rw [ev] at g0
      unfold maxLen at hmv
      have HL := Lib.hid hrel
      have HC := Lib.hid hC
      have htot : f.fl.l.length ≤ total ((D ++ f :: C).map Fr.fl) := by rw [List.map_append, List.map_cons, total_app, total_cons]; omega
      have hle := Nat.le_trans hrel.tot hus
      have hBr := Nat.le_trans hB1 hrel.st.kp.size
      clear hd hrel hC ev hLk
      by_cases h0 : rst f.fl = 0
      · have h0e : (f.fl.l.length : Int) - (f.fl.s : Int) = 0 := by unfold rst at h0; omega
        have H0 := Lib.hid h0
        clear h0
        go_wp2_with fail
        go_quiet (fail)
        go_wp2_with fail
        go_roundw
        case rel => exact ⟨k + 1, D ++ [f], C, ks', by omega, by go_num, (HL.out.skip H0.out HC.out).up (bwN _)⟩
        case measure => simp [intOf]; omega
      · have h0e : ¬ (f.fl.l.length : Int) - (f.fl.s : Int) = 0 := by unfold rst at h0; omega
        have h0b : ((f.fl.l.length : Int) - (f.fl.s : Int) == 0) = false := by simpa using h0e
        have H0 := Lib.hid h0
        obtain ⟨Ak, ck, ek, hck, hmk⟩ := HL.out.rk.1.shapeM
        unfold maxLen at hmk
        clear h0
        cases ks' with
        | nil =>
          simp only [List.length_nil] at ek
          subst ek
          go_wp2_with fail
          go_quiet (fail)
          have hup := Lib.hid (HL.out.up (bwN (w := wr) nq))
          have hBr := Nat.le_trans hBr (bwN (w := wr) nq).size
          clear HL
          have hct := cut_any hup.out.st.at_ hBr f.fl.s hfs htot hle
          have g1 : (wr.drewN nq).cell? ⟨f.bl, 1, none⟩ = some (.int .i64 (f.fl.s : Int)) := g1
          generalize wr.drewN nq = wq at *
          go_wp2_with fail
          refine hct.mono ?_
          rintro e w2 ⟨rfl, v2, st2⟩
          have h2 := st2.at_
          obtain ⟨A2, c2', g0, hn2, hm2⟩ := h2.cutShape (n := f.fl.s) rfl hfs
          have g1 := h2.g1 (f := { f with v := v2, fl := { f.fl with l := f.fl.l.take f.fl.s, s := min f.fl.s f.fl.s } }) (by simp)
          have y1 := h2.y1 (f := { f with v := v2, fl := { f.fl with l := f.fl.l.take f.fl.s, s := min f.fl.s f.fl.s } }) (by simp)
          have HX := Lib.hid (hup.out.kept (n := 0) (Nat.zero_le _) HC.out st2 (crash_none H0.out) hup.out.rk hup.out.wf)
          clear hct st2 h2
          go_wp2_with fail
          go_roundw
          case rel => exact ⟨k + 1, _, C, _, by omega, by go_num, HX.out⟩
          case measure => simp [intOf]; omega
        | cons q r =>
          have hrk := HL.out.rk
          have hqr := HL.out.wf q (by simp)
          simp only [List.length_cons] at ek
          rw [ek] at hrk
          obtain ⟨bk, ok, rfl, -, hkc⟩ := hrk.1.cellM (l := q :: r) (f := iv) (by simp)
          have hk0 := hkc 0 (by simp)
          simp only [List.getElem_cons_zero, Nat.add_zero, iv] at hk0
          subst ek
          have HRK := Lib.hid hrk
          clear hkc hrk
          obtain ⟨kn, hke⟩ : ∃ kn, kn = q.natAbs % (rst f.fl + 1) := ⟨_, rfl⟩
          obtain ⟨hkn, hk1, hk2⟩ := kept_num (kn := kn) (q := q) (f := f.fl) hfs (by omega) hke
          have HCO : Hid (∀ M : List Fl, crash (f.fl :: M) (q :: r) = keepF f.fl kn :: crash M r) := Lib.hid fun M => by rw [hke]; exact crash_one q r H0.out
          have HK1 := Lib.hid hk1
          have HK2 := Lib.hid hk2
          clear hke hk1 hk2
          by_cases hc1 : ck = 1
          · subst hc1
            have hr : r.length = 0 := by simpa using hck
            have hrn := List.eq_nil_of_length_eq_zero hr
            subst hrn
            have HK0 := Lib.hid HRK.out.tl0
            go_wp2_with fail
            go_quiet (fail)
            have hup := Lib.hid (HL.out.up (bwN (w := wr) nq))
            have hBr := Nat.le_trans hBr (bwN (w := wr) nq).size
            have HK9 := Lib.hid (HK0.out.up (Kp.of_below (bwN (w := wr) nq) _) (fun _ hk => .inl hk))
            clear HL
            go_wp2_with fail
            refine (distance_any q _ hqr.1 hqr.2).mono ?_
            rintro e w9 ⟨rfl, rfl⟩
            have hct := cut_any hup.out.st.at_ hBr (f.fl.s + kn) (by unfold rst at hkn; omega) htot hle
            have g1 : (wr.drewN nq).cell? ⟨f.bl, 1, none⟩ = some (.int .i64 (f.fl.s : Int)) := g1
            generalize wr.drewN nq = wq at *
            go_wp2_with fail
            rw [HK1.out, HK2.out]
            refine hct.mono ?_
            rintro e w2 ⟨rfl, v2, st2⟩
            have h2 := st2.at_
            obtain ⟨A2, c2', g0, hn2, hm2⟩ := h2.cutShape (n := f.fl.s + kn) rfl (by unfold rst at hkn; omega)
            have g1 := h2.g1 (f := { f with v := v2, fl := { f.fl with l := f.fl.l.take (f.fl.s + kn), s := min f.fl.s (f.fl.s + kn) } }) (by simp)
            have y1 := h2.y1 (f := { f with v := v2, fl := { f.fl with l := f.fl.l.take (f.fl.s + kn), s := min f.fl.s (f.fl.s + kn) } }) (by simp)
            have HX := Lib.hid (hup.out.kept (n := kn) hkn HC.out st2 (HCO.out _) HK9.out (fun x hx => hup.out.wf x (by simp [hx])))
            clear hct st2 h2
            go_wp2_with fail
            go_roundw
            case rel => exact ⟨k + 1, _, C, _, by omega, by go_num, HX.out⟩
            case measure => simp [intOf]; omega
          · have HK0 := Lib.hid (HRK.out.tl hc1)
            go_wp2_with fail
            go_quiet (fail)
            have hup := Lib.hid (HL.out.up (bwN (w := wr) nq))
            have hBr := Nat.le_trans hBr (bwN (w := wr) nq).size
            have HK9 := Lib.hid (HK0.out.up (Kp.of_below (bwN (w := wr) nq) _) (fun _ hk => .inl hk))
            clear HL
            go_wp2_with fail
            refine (distance_any q _ hqr.1 hqr.2).mono ?_
            rintro e w9 ⟨rfl, rfl⟩
            have hct := cut_any hup.out.st.at_ hBr (f.fl.s + kn) (by unfold rst at hkn; omega) htot hle
            have g1 : (wr.drewN nq).cell? ⟨f.bl, 1, none⟩ = some (.int .i64 (f.fl.s : Int)) := g1
            generalize wr.drewN nq = wq at *
            go_wp2_with fail
            rw [HK1.out, HK2.out]
            refine hct.mono ?_
            rintro e w2 ⟨rfl, v2, st2⟩
            have h2 := st2.at_
            obtain ⟨A2, c2', g0, hn2, hm2⟩ := h2.cutShape (n := f.fl.s + kn) rfl (by unfold rst at hkn; omega)
            have g1 := h2.g1 (f := { f with v := v2, fl := { f.fl with l := f.fl.l.take (f.fl.s + kn), s := min f.fl.s (f.fl.s + kn) } }) (by simp)
            have y1 := h2.y1 (f := { f with v := v2, fl := { f.fl with l := f.fl.l.take (f.fl.s + kn), s := min f.fl.s (f.fl.s + kn) } }) (by simp)
            have HX := Lib.hid (hup.out.kept (n := kn) hkn HC.out st2 (HCO.out _) HK9.out (fun x hx => hup.out.wf x (by simp [hx])))
            clear hct st2 h2
            go_wp2_with fail
            go_roundw
            case rel => exact ⟨k + 1, _, C, _, by omega, by go_num, HX.out⟩
            case measure => simp [intOf]; omega
    · obtain rfl : k = L.length := by omega
      have hR : R = [] := by rw [hrel.dr]; simp
      subst hR
      have hcr := hrel.cr
      have hst := hrel.st
      simp only [List.append_nil, List.map_nil, crash] at hcr hst
      have HS := Lib.hid (ST.out.trans hst)
      have HC := Lib.hid hcr
      clear hrel hcr hst
      go_wp2_with fail
      go_end0
      exact ⟨rfl, D, HS.out, HC.out.symm⟩
end Go.Proofs.Ytblejjjifokmgaa
