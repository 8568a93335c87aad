/- The contracts of package disk's acts in one form; that of the law's own 'do'. -/
import Derived.Test.YtblejjjifokmgaaDoP
import Derived.Test.YtblejjjifokmgaaDskH
namespace Go.Proofs.Ytblejjjifokmgaa
open Go.RowKit Go.Maps Dk

/-- what an act leaves: its error, the files -/
def Res (w w' : World) (B : Nat) (d : Value) (db mb cap : Nat) (L : List Fr) (r : List Fl × Int) (e : Ending) : Prop :=
  e = .returned (.int .i64 r.2) ∧ ∃ L', Step w w' B d db mb cap L (total (L'.map Fr.fl)) L' ∧ L'.map Fr.fl = r.1
section
variable {w : World} {B : Nat} {d : Value} {db mb cap : Nat} {L : List Fr}
theorem Res.same (h : DiskAt w B d db mb cap (total (L.map Fr.fl)) L) {w' : World} (hb : Below w.heap.size w w') (k : Int) : Res w w' B d db mb cap L (L.map Fr.fl, k) (.returned (.int .i64 k)) := ⟨rfl, L, Step.bel h hb, rfl⟩
theorem ap_any (h : DiskAt w B d db mb cap (total (L.map Fr.fl)) L) (hI : Inv cap (L.map Fr.fl)) (hL : L.length ≤ 1000000) (hB : B ≤ w.heap.size) (s : ByteArray) (hs : s.size ≤ 1000) {x : Value} {b : List UInt8} (hx : RdS w (fp db mb L) x b) (hb : b.length ≤ 1000000000) :
    Calls Try.prog 14 #[d, .string s, x] w fun e w' => Res w w' B d db mb cap L (apF cap s b (L.map Fr.fl)) e := by
  have ht := hI.tot
  have hc := hI.capb
  unfold apF
  by_cases h1 : named s = false
  · rw [if_pos h1]
    exact (append_arg s h1).mono fun e w' ⟨e1, e2⟩ => by subst e1 e2; exact Res.same h (Below.refl _ _) 1
  · rw [if_neg h1]
    have h1 : named s = true := by simpa using h1
    by_cases h2 : cap < total (L.map Fr.fl) + b.length
    · rw [if_pos h2]
      exact (append_full h s h1 b hx.1 hb ht h2).mono fun e w' ⟨e1, e2⟩ => by subst e1; exact Res.same h e2 4
    · rw [if_neg h2]
      obtain ⟨h3, h4, h5, h6⟩ := hI.op h1
      have hz := len_le_total h4
      refine (append_ok h (by omega) hB s h1 (by omega) b hx hc (by omega) (by omega)).mono ?_
      rintro e w' ⟨rfl, L', st, hL'⟩
      have htp := total_put h3.srt h4 (show key (⟨(opF s (L.map Fr.fl)).nm, (opF s (L.map Fr.fl)).l ++ b, (opF s (L.map Fr.fl)).s⟩ : Fl) = key (opF s (L.map Fr.fl)) from rfl)
      have e : total (L'.map Fr.fl) = total (L.map Fr.fl) + b.length := by
        rw [hL']
        simp only [List.length_append] at htp
        show total (put key ⟨(opF s (L.map Fr.fl)).nm, (opF s (L.map Fr.fl)).l ++ b, (opF s (L.map Fr.fl)).s⟩ _) = _
        omega
      rw [← e] at st
      exact ⟨rfl, L', st, hL'⟩
theorem sy_any (h : DiskAt w B d db mb cap (total (L.map Fr.fl)) L) (s : ByteArray) (hs : s.size ≤ 1000) :
    Calls Try.prog 15 #[d, .string s] w fun e w' => Res w w' B d db mb cap L (syF s (L.map Fr.fl)) e := by
  unfold syF
  rw [fl_fnd]
  rcases fnd_cases fk s.data.toList L with h0 | ⟨A, f, C, rfl, h1, h2⟩
  · rw [h0]
    exact (sync_no h s (by omega) h0).mono fun e w' ⟨e1, e2⟩ => by subst e1 e2; exact Res.same h (Below.refl _ _) 5
  · rw [h2]
    refine (sync_ok h s (by omega) h2).mono ?_
    rintro e w' ⟨rfl, st⟩
    have e := fl_mid (f := f) (f' := { f with fl := { f.fl with s := f.fl.l.length } }) h.srt rfl
    refine ⟨rfl, _, ?_, e⟩
    have ht : total ((A ++ { f with fl := { f.fl with s := f.fl.l.length } } :: C).map Fr.fl) = total ((A ++ f :: C).map Fr.fl) := by
      simp only [List.map_append, List.map_cons, total_app, total_cons]
    rw [ht]
    exact st
theorem de_any (h : DiskAt w B d db mb cap (total (L.map Fr.fl)) L) (hI : Inv cap (L.map Fr.fl)) (hB : B ≤ w.heap.size) (s : ByteArray) (hs : s.size ≤ 1000) :
    Calls Try.prog 19 #[d, .string s] w fun e w' => Res w w' B d db mb cap L (deF s (L.map Fr.fl)) e := by
  have ht := hI.tot
  have hc := hI.capb
  refine (delete_any h hB s (by omega) rfl (by omega)).mono ?_
  rintro e w' ⟨rfl, st⟩
  unfold deF
  cases hf : fnd key s.data.toList (L.map Fr.fl) with
  | none =>
    rw [fl_fnd] at hf
    have hf' : fnd fk s.data.toList L = none := by
      cases h2 : fnd fk s.data.toList L with
      | none => rfl
      | some f => rw [h2] at hf; cases hf
    rw [wo_none hf'] at st
    exact ⟨rfl, L, st, rfl⟩
  | some f => exact ⟨rfl, _, st, fl_wo _ _⟩
theorem tr_any (h : DiskAt w B d db mb cap (total (L.map Fr.fl)) L) (hI : Inv cap (L.map Fr.fl)) (hB : B ≤ w.heap.size) (s : ByteArray) (hs : s.size ≤ 1000) (n : Int) :
    Calls Try.prog 27 #[d, .string s, .int .i64 n] w fun e w' => Res w w' B d db mb cap L (trF s n (L.map Fr.fl)) e := by
  have ht := hI.tot
  have hc := hI.capb
  unfold trF
  rw [fl_fnd]
  rcases fnd_cases fk s.data.toList L with h0 | ⟨A, f, C, rfl, h1, h2⟩
  · rw [h0]
    exact (trim_no h s n (by omega) h0).mono fun e w' ⟨e1, e2⟩ => by subst e1 e2; exact Res.same h (Below.refl _ _) 5
  · rw [h2]
    have hf : f ∈ A ++ f :: C := by simp
    have hlt := len_le_total (List.mem_map.2 ⟨f, hf, rfl⟩ : f.fl ∈ (A ++ f :: C).map Fr.fl)
    show Calls _ _ _ _ fun e w' => Res w w' B d db mb cap (A ++ f :: C) (if n < 0 ∨ (f.fl.l.length : Int) < n then ((A ++ f :: C).map Fr.fl, 1) else (put key { f.fl with l := f.fl.l.take n.toNat, s := min f.fl.s n.toNat } ((A ++ f :: C).map Fr.fl), 0)) e
    by_cases hn : n < 0 ∨ (f.fl.l.length : Int) < n
    · rw [if_pos hn]
      exact (trim_arg h s n (by omega) hf h2 hn).mono fun e w' ⟨e1, e2⟩ => by subst e1 e2; exact Res.same h (Below.refl _ _) 1
    · rw [if_neg hn]
      obtain ⟨m, rfl⟩ := Int.eq_ofNat_of_zero_le (show 0 ≤ n by omega)
      rw [Int.toNat_natCast]
      have hm : m ≤ f.fl.l.length := by omega
      refine (trim_ok h hB s m (by omega) h2 hm hlt (by omega)).mono ?_
      rintro e w' ⟨rfl, v, st⟩
      refine ⟨rfl, _, ?_, fl_mid (f := f) (f' := { f with v := v, fl := { f.fl with l := f.fl.l.take m, s := min f.fl.s m } }) h.srt rfl⟩
      have e : total ((A ++ { f with v := v, fl := { f.fl with l := f.fl.l.take m, s := min f.fl.s m } } :: C).map Fr.fl) = total ((A ++ f :: C).map Fr.fl) - (f.fl.l.length - m) := by
        simp only [List.map_append, List.map_cons, total_app, total_cons, List.length_take]
        omega
      rw [e]
      exact st
theorem tu_any (h : DiskAt w B d db mb cap (total (L.map Fr.fl)) L) (s : ByteArray) (hs : s.size ≤ 1000) (n : Int) (b : UInt8) :
    Calls Try.prog 26 #[d, .string s, .int .i64 n, .int .u8 (b.toNat : Int)] w fun e w' => Res w w' B d db mb cap L (tuF s n b (L.map Fr.fl)) e := by
  unfold tuF
  rw [fl_fnd]
  rcases fnd_cases fk s.data.toList L with h0 | ⟨A, f, C, rfl, h1, h2⟩
  · rw [h0]
    exact (turn_no h s n (by omega) h0).mono fun e w' ⟨e1, e2⟩ => by subst e1 e2; exact Res.same h (Below.refl _ _) 5
  · rw [h2]
    have hf : f ∈ A ++ f :: C := by simp
    show Calls _ _ _ _ fun e w' => Res w w' B d db mb cap (A ++ f :: C) (if n < 0 ∨ (f.fl.l.length : Int) ≤ n then ((A ++ f :: C).map Fr.fl, 1) else (put key { f.fl with l := turnB f.fl.l n.toNat b } ((A ++ f :: C).map Fr.fl), 0)) e
    by_cases hn : n < 0 ∨ (f.fl.l.length : Int) ≤ n
    · rw [if_pos hn]
      exact (turn_arg h s n (by omega) hf h2 hn).mono fun e w' ⟨e1, e2⟩ => by subst e1 e2; exact Res.same h (Below.refl _ _) 1
    · rw [if_neg hn]
      obtain ⟨m, rfl⟩ := Int.eq_ofNat_of_zero_le (show 0 ≤ n by omega)
      rw [Int.toNat_natCast]
      have hm : m < f.fl.l.length := by omega
      refine (turn_ok h s m b (by omega) h2 hm).mono ?_
      rintro e w' ⟨rfl, st⟩
      refine ⟨rfl, _, ?_, fl_mid (f := f) (f' := { f with fl := { f.fl with l := turnB f.fl.l m b } }) h.srt rfl⟩
      have e : total ((A ++ { f with fl := { f.fl with l := turnB f.fl.l m b } } :: C).map Fr.fl) = total ((A ++ f :: C).map Fr.fl) := by
        simp only [List.map_append, List.map_cons, total_app, total_cons, turnB_len]
      rw [e]
      exact st
theorem re_any (h : DiskAt w B d db mb cap (total (L.map Fr.fl)) L) (hI : Inv cap (L.map Fr.fl)) (hL : L.length ≤ 1000000) (hB : B ≤ w.heap.size) (a b : ByteArray) (ha : a.size ≤ 1000) (hb : b.size ≤ 1000) :
    Calls Try.prog 25 #[d, .string a, .string b] w fun e w' => Res w w' B d db mb cap L (reF a b (L.map Fr.fl)) e := by
  have ht := hI.tot
  have hc := hI.capb
  unfold reF
  by_cases h1 : named a = false ∨ named b = false
  · rw [if_pos h1]
    exact (rename_arg a b h1).mono fun e w' ⟨e1, e2⟩ => by subst e1 e2; exact Res.same h (Below.refl _ _) 1
  · rw [if_neg h1, fl_fnd]
    have hna : named a = true := by simpa using fun e => h1 (.inl e)
    have hnb : named b = true := by simpa using fun e => h1 (.inr e)
    cases h2 : fnd fk a.data.toList L with
    | none => exact (rename_no h a b hna hnb (by omega) h2).mono fun e w' ⟨e1, e2⟩ => by subst e1 e2; exact Res.same h (Below.refl _ _) 5
    | some f =>
      have hf : f ∈ L := List.mem_of_find?_eq_some h2
      have hk : fk f = a.data.toList := by simpa [fnd] using List.find?_some h2
      have hs := fl_srt h.srt
      have hfm : f.fl ∈ L.map Fr.fl := List.mem_map.2 ⟨f, hf, rfl⟩
      show Calls _ _ _ _ fun e w' => Res w w' B d db mb cap L (put key { f.fl with nm := b } (wo key a.data.toList (L.map Fr.fl)), 0) e
      by_cases hab : a = b
      · subst hab
        have e1 : ({ f.fl with nm := a } : Fl) = f.fl := by
          have : f.fl.nm = a := name_ext hk
          cases hfl : f.fl
          rw [hfl] at this
          cases this
          rfl
        have e2 : put key { f.fl with nm := a } (wo key a.data.toList (L.map Fr.fl)) = L.map Fr.fl := by
          rw [e1, ← show key f.fl = a.data.toList from hk]
          exact put_self hs hfm
        rw [e2]
        exact (rename_same h a hna (by omega) h2).mono fun e w' ⟨e1, e2⟩ => by subst e1 e2; exact Res.same h (Below.refl _ _) 0
      · refine (rename_ok h (by omega) hB a b hna hnb hab (by omega) (by omega) hf h2 hk rfl (by omega)).mono ?_
        rintro e w' ⟨rfl, st⟩
        have e1 : (put fk { f with fl := { f.fl with nm := b } } (wo fk a.data.toList (wo fk b.data.toList L))).map Fr.fl = put key { f.fl with nm := b } (wo key a.data.toList (wo key b.data.toList (L.map Fr.fl))) := by
          rw [fl_put, fl_wo, fl_wo]
        have e2 : total ((put fk { f with fl := { f.fl with nm := b } } (wo fk a.data.toList (wo fk b.data.toList L))).map Fr.fl) = total ((wo fk b.data.toList L).map Fr.fl) := by
          rw [e1, ← fl_wo b.data.toList]
          have hfb : f ∈ wo fk b.data.toList L := mem_wo.2 ⟨hf, fun e => hab (name_ext (hk.symm.trans e))⟩
          have hsb := fl_srt (srt_wo (n := b.data.toList) h.srt)
          have hnb2 : ∀ g ∈ wo key a.data.toList ((wo fk b.data.toList L).map Fr.fl), key g ≠ b.data.toList := fun g hg => by
            obtain ⟨q, hq, e⟩ := List.mem_map.1 (mem_wo.1 hg).1
            rw [← e]
            exact (mem_wo.1 hq).2
          obtain ⟨A, C, e⟩ := List.append_of_mem (List.mem_map.2 ⟨f, hfb, rfl⟩ : f.fl ∈ (wo fk b.data.toList L).map Fr.fl)
          rw [e] at hsb hnb2 ⊢
          have hka : key f.fl = a.data.toList := hk
          rw [← hka, wo_mid hsb] at hnb2 ⊢
          have hnone : fnd key (key ({ f.fl with nm := b } : Fl)) (A ++ C) = none := by
            unfold fnd
            rw [List.find?_eq_none]
            intro g hg
            have := hnb2 g hg
            show ¬ decide (key g = b.data.toList) = true
            simpa using this
          rw [put_none hnone, total_ins, total_app, total_app, total_cons]
          show f.fl.l.length + _ = _
          omega
        rw [← e2] at st
        refine ⟨rfl, _, st, ?_⟩
        rw [e1]
        exact put_wo _ rfl
theorem cr_any (h : DiskAt w B d db mb cap (total (L.map Fr.fl)) L) (hI : Inv cap (L.map Fr.fl)) (hL : L.length ≤ 1000000) (hB : B ≤ w.heap.size) {kv : Value} {ks : List Int} (hk : RdV w (fp db mb L) kv (ks.map iv)) (hw : ∀ q ∈ ks, inR q) :
    Calls Try.prog 16 #[d, kv] w fun e w' => e = .returned (.tuple #[]) ∧ ∃ L', Step w w' B d db mb cap L (total (L'.map Fr.fl)) L' ∧ L'.map Fr.fl = crash (L.map Fr.fl) ks := by
  have ht := hI.tot
  have hc := hI.capb
  exact crash_any h (by omega) hB (fun f hf => by have := named_le (hI.nmd f.fl (List.mem_map.2 ⟨f, hf, rfl⟩)); omega) rfl (by omega) (fun f hf => hI.fine f.fl (List.mem_map.2 ⟨f, hf, rfl⟩)) hk hw
end
end Go.Proofs.Ytblejjjifokmgaa
