/- The disk under a log: syncing, trimming, whatever is synced; and the way by a file "new". The log's file by way of a file "new". A log where it lies: what it promised, its votes, its size; a record more. Promise and Vote of a log. A log is opened. -/
import Derived.Test.YtaddbhdkgneiaaaLgG
import Derived.Test.YtaddbhdkgneiaaaDkG
import Derived.Test.YtaddbhdkgneiaaaLmA
set_option maxHeartbeats 8000000
set_option maxRecDepth 100000
namespace Go.Proofs.Ytaddbhdkgneiaaa.Ce
open Go.RowKit Dk
def newNm : ByteArray := ⟨#[110, 101, 119]⟩
section
variable {w w1 w2 : World} {B : Nat} {d : Value} {cap db mb : Nat} {L L1 : List Fr} {M M' M2 : List Dk.Fl} {o : Option (List UInt8)}
theorem DkStep.refl (h : DkAt w B d cap M db mb L) : DkStep w w B d cap db mb L M := ⟨L, h, Kp.refl _ _, fun _ hk => .inl hk⟩
theorem DkStep.after (hk : Kp (fp db mb L) w w1) (hs : ∀ k ∈ fp db mb L1, k ∈ fp db mb L ∨ w.heap.size ≤ k) (h2 : DkStep w1 w2 B d cap db mb L1 M2) : DkStep w w2 B d cap db mb L M2 := by
 obtain ⟨L2, h2, k2, s2⟩ := h2
 refine ⟨L2, h2, hk.trans k2 hs, fun k hm => ?_⟩
 rcases s2 k hm with h | h
 ·exact hs k h
 ·exact .inr (Nat.le_trans hk.size h)
theorem DkAt.up (h : DkAt w B d cap M db mb L) (hb : Below w.heap.size w w1) : DkAt w1 B d cap M db mb L := ⟨h.at_.below hb, h.fil, h.cap_le, h.len_le, Nat.le_trans h.hB hb.size⟩
theorem DkStep.bel (h : DkStep w w1 B d cap db mb L M) (hb : Below w1.heap.size w1 w2) : DkStep w w2 B d cap db mb L M := by
 obtain ⟨L1, h1, k1, s1⟩ := h
 exact ⟨L1, h1.up hb, k1.bel hb, s1⟩
theorem DkStep.of_step {us : Nat} (h : DkAt w B d cap M db mb L) (st : Step w w1 B d db mb cap L us L1) (hM : L1.map Fr.fl = M') (ht : us = Dk.total M') (hle : Dk.total M' ≤ cap) : DkStep w w1 B d cap db mb L M' :=
 ⟨L1, ⟨ht ▸ st.at_, hM, h.cap_le, hle, Nat.le_trans h.hB st.kp.size⟩, st.kp, st.sub⟩
theorem DkAt.fnd_of (h : DkAt w B d cap M db mb L) {s : ByteArray} {x : Dk.Fl} (hx : Dk.fnd Dk.key s.data.toList M = some x) : ∃ A f C, L = A ++ f :: C ∧ fk f = s.data.toList ∧ Dk.fnd fk s.data.toList L = some f ∧ f.fl = x := by
 rcases fnd_cases fk s.data.toList L with h0 | ⟨A, f, C, e, h1, h2⟩
 ·have := fl_fnd s.data.toList L
  rw [h.fil, hx, h0] at this
  cases this
 ·refine ⟨A, f, C, e, h1, h2, ?_⟩
  have := fl_fnd s.data.toList L
  rw [h.fil, hx, h2] at this
  exact (Option.some.inj this).symm
theorem DkAt.fnd_no (h : DkAt w B d cap M db mb L) {s : ByteArray} (hx : Dk.fnd Dk.key s.data.toList M = none) : Dk.fnd fk s.data.toList L = none := by
 have := fl_fnd s.data.toList L
 rw [h.fil, hx] at this
 cases hf : Dk.fnd fk s.data.toList L with
 | none => rfl
 | some f => rw [hf] at this; cases this
theorem DkAt.few (h : DkAt w B d cap M db mb L) : L.length = M.length := by rw [← h.fil, List.length_map]
theorem DkAt.read (h : DkAt w B d cap M db mb L) (hf : FilAt M o) :
  Calls Try.prog 29 #[d, .string logNm] w fun e w' => (∃ v E, e = .returned (.tuple #[v, .int .i64 E]) ∧ Ow w' w.heap.size 5 v ((byt o).map bv)) ∧ Below w.heap.size w w' := by
 have hlen := h.len_le
 have hcap := h.cap_le
 have htot := hf.tot
 cases hf with
 | none =>
  refine (read_no h.at_ logNm (by decide) (h.fnd_no rfl)).mono ?_
  rintro e w' ⟨rfl, rfl⟩
  exact ⟨⟨_, _, rfl, Ow.nil _ _ _⟩, Below.refl _ _⟩
 | some b s hs =>
  obtain ⟨A, f, C, hL, h1, h2, h3⟩ := h.fnd_of (s := logNm) (x := ⟨logNm, b, s⟩) rfl
  have hl : f.fl.l = b := by rw [h3]
  have hbl : (byt (some b)).length = b.length := rfl
  refine (read_ok h.at_ logNm (by decide) (by rw [hL]; simp) h2 (by rw [hl]; omega)).mono ?_
  rintro e w' ⟨⟨v, rfl, ho⟩, hb⟩
  rw [hl] at ho
  exact ⟨⟨_, _, rfl, ho⟩, hb⟩
theorem DkAt.sync (h : DkAt w B d cap M db mb L) (hf : FilAt M o) :
  Calls Try.prog 31 #[d, .string logNm] w fun e w' => (∃ E, e = .returned (.int .i64 E)) ∧ DkStep w w' B d cap db mb L (filesOf o) := by
 have hlen := h.len_le
 have htot := hf.tot
 cases hf with
 | none =>
  refine (sync_no h.at_ logNm (by decide) (h.fnd_no rfl)).mono ?_
  rintro e w' ⟨rfl, rfl⟩
  exact ⟨⟨_, rfl⟩, DkStep.refl h⟩
 | some b s hs =>
  obtain ⟨A, f, C, rfl, h1, h2, h3⟩ := h.fnd_of (s := logNm) (x := ⟨logNm, b, s⟩) rfl
  have hfl := h.fil
  rw [List.map_append, List.map_cons, h3] at hfl
  have hA : A = [] := by
   cases A with
   | nil => rfl
   | cons a A => have := congrArg List.length hfl; simp at this
  subst hA
  have hC : C = [] := by
   cases C with
   | nil => rfl
   | cons a A => have := congrArg List.length hfl; simp at this
  subst hC
  refine (sync_ok h.at_ logNm (by decide) h2).mono ?_
  rintro e w' ⟨rfl, st⟩
  exact ⟨⟨_, rfl⟩, DkStep.of_step h st (by simp [h3, filesOf]) (by rw [htot, filesOf_tot]) (by rw [filesOf_tot, ← htot]; exact hlen)⟩
theorem DkAt.trim (h : DkAt w B d cap M db mb L) (hf : FilAt M o) (n : Nat) (hn : n ≤ (byt o).length) :
  Calls Try.prog 30 #[d, .string logNm, .int .i64 (n : Int)] w fun e w' => (∃ E, e = .returned (.int .i64 E)) ∧ ∃ M', FilAt M' (o.map fun b => b.take n) ∧ DkStep w w' B d cap db mb L M' := by
 have hlen := h.len_le
 have hcap := h.cap_le
 have htot := hf.tot
 cases hf with
 | none =>
  refine (trim_no h.at_ logNm _ (by decide) (h.fnd_no rfl)).mono ?_
  rintro e w' ⟨rfl, rfl⟩
  exact ⟨⟨_, rfl⟩, [], .none, DkStep.refl h⟩
 | some b s hs =>
  have hbl : (byt (some b)).length = b.length := rfl
  obtain ⟨A, f, C, rfl, h1, h2, h3⟩ := h.fnd_of (s := logNm) (x := ⟨logNm, b, s⟩) rfl
  have hfl := h.fil
  rw [List.map_append, List.map_cons, h3] at hfl
  have hA : A = [] := by
   cases A with
   | nil => rfl
   | cons a A => have := congrArg List.length hfl; simp at this
  subst hA
  have hC : C = [] := by
   cases C with
   | nil => rfl
   | cons a A => have := congrArg List.length hfl; simp at this
  subst hC
  have hl : f.fl.l = b := by rw [h3]
  refine (trim_ok h.at_ h.hB logNm n (by decide) h2 (by rw [hl]; omega) (by rw [hl]; omega) (by omega)).mono ?_
  rintro e w' ⟨rfl, v', st⟩
  have ht : Dk.total [(⟨logNm, b.take n, min s n⟩ : Dk.Fl)] = min n b.length := by simp [Dk.total]
  exact ⟨⟨_, rfl⟩, [⟨logNm, b.take n, min s n⟩], .some _ _ (by rw [List.length_take]; omega), DkStep.of_step h st (by simp [h3]) (by rw [ht, hl]; omega) (by rw [ht]; omega)⟩
theorem DkAt.appendG (h : DkAt w B d cap M db mb L) (hm : M.length ≤ 100) (s : ByteArray) (hs : named s = true) (hs2 : s.size ≤ 1000000000) {x : Value} {l : List UInt8} (hx : RdS w (fp db mb L) x l) (hl : l.length ≤ 1000000) (hz : (opF s M).l.length ≤ 1000000000) (hM : Dk.put Dk.key { opF s M with l := (opF s M).l ++ l } (opL s M) = M') (ht : Dk.total M' = Dk.total M + l.length) :
  Calls Try.prog 9 #[d, .string s, x] w fun e w' => ∃ E, e = .returned (.int .i64 E) ∧ ((E = 4 ∧ cap < Dk.total M + l.length ∧ DkStep w w' B d cap db mb L M) ∨ (E = 0 ∧ Dk.total M + l.length ≤ cap ∧ DkStep w w' B d cap db mb L M')) := by
 have hcap := h.cap_le
 have hlen := h.len_le
 by_cases hfull : cap < Dk.total M + l.length
 ·refine (append_full h.at_ s hs l hx.1 (by omega) hlen hfull).mono ?_
  rintro e w' ⟨rfl, hb⟩
  exact ⟨4, rfl, .inl ⟨rfl, hfull, (DkStep.refl h).bel hb⟩⟩
 ·refine (append_ok h.at_ (by rw [h.few]; omega) h.hB s hs hs2 l hx hcap (by omega) (by rw [h.fil]; exact hz)).mono ?_
  rintro e w' ⟨rfl, L', st, hL'⟩
  rw [h.fil, hM] at hL'
  exact ⟨0, rfl, .inr ⟨rfl, by omega, DkStep.of_step h st hL' ht.symm (by omega)⟩⟩
theorem DkAt.syncG (h : DkAt w B d cap M db mb L) (s : ByteArray) (hs : s.size ≤ 1000000000) {x : Dk.Fl} (hx : Dk.fnd Dk.key s.data.toList M = some x) (hM : Dk.put Dk.key { x with s := x.l.length } M = M') (ht : Dk.total M' = Dk.total M) :
  Calls Try.prog 31 #[d, .string s] w fun e w' => (∃ E, e = .returned (.int .i64 E)) ∧ DkStep w w' B d cap db mb L M' := by
 have hlen := h.len_le
 obtain ⟨A, f, C, rfl, h1, h2, rfl⟩ := h.fnd_of hx
 refine (sync_ok h.at_ s hs h2).mono ?_
 rintro e w' ⟨rfl, st⟩
 refine ⟨⟨_, rfl⟩, DkStep.of_step h st ?_ ht.symm (by omega)⟩
 rw [fl_mid h.at_.srt (by rfl), h.fil]
 exact hM
theorem DkAt.renG (h : DkAt w B d cap M db mb L) (hm : M.length ≤ 100) (a b : ByteArray) (ha : named a = true) (hb : named b = true) (hab : a ≠ b) (hsa : a.size ≤ 1000000000) (hsb : b.size ≤ 1000000000) {x : Dk.Fl} (hx : Dk.fnd Dk.key a.data.toList M = some x)
  (hM : Dk.put Dk.key { x with nm := b } (Dk.wo Dk.key a.data.toList (Dk.wo Dk.key b.data.toList M)) = M') (ht : Dk.total M' = Dk.total (Dk.wo Dk.key b.data.toList M)) (hle : Dk.total M' ≤ cap) :
  Calls Try.prog 56 #[d, .string a, .string b] w fun e w' => e = .returned (.int .i64 0) ∧ DkStep w w' B d cap db mb L M' := by
 have hcap := h.cap_le
 have hlen := h.len_le
 obtain ⟨A, f, C, hL, h1, h2, h3⟩ := h.fnd_of hx
 refine (rename_ok h.at_ (by rw [h.few]; omega) h.hB a b ha hb hab hsa hsb (by rw [hL]; simp) h2 h1 (by rw [h.fil]) (by omega)).mono ?_
 rintro e w' ⟨rfl, st⟩
 refine ⟨rfl, DkStep.of_step h st ?_ ?_ hle⟩
 ·rw [fl_put, fl_wo, fl_wo, h.fil, ← hM, ← h3]
 ·rw [fl_wo, h.fil, ht]
end
end Go.Proofs.Ytaddbhdkgneiaaa.Ce
namespace Go.Proofs.Ytaddbhdkgneiaaa.Ce
open Go.RowKit Dk
def newL (o : Option (List UInt8)) (b : List UInt8) (s : Nat) : List Dk.Fl := filesOf o ++ [⟨newNm, b, s⟩]
theorem newL_tot (o : Option (List UInt8)) (b : List UInt8) (s : Nat) : Dk.total (newL o b s) = (byt o).length + b.length := by
 unfold newL
 rw [Dk.total_app, filesOf_tot]
 simp [Dk.total]
theorem new_app (o : Option (List UInt8)) (b : List UInt8) : Dk.put Dk.key { opF newNm (filesOf o) with l := (opF newNm (filesOf o)).l ++ b } (opL newNm (filesOf o)) = newL o b 0 := by
 cases o with
 | none => rfl
 | some c => rfl
theorem new_none (o : Option (List UInt8)) : Dk.fnd Dk.key newNm.data.toList (filesOf o) = none := by
 cases o with
 | none => rfl
 | some c => rfl
theorem new_fnd (o : Option (List UInt8)) (b : List UInt8) (s : Nat) : Dk.fnd Dk.key newNm.data.toList (newL o b s) = some ⟨newNm, b, s⟩ := by
 cases o with
 | none => rfl
 | some c => rfl
theorem new_sync (o : Option (List UInt8)) (b : List UInt8) : Dk.put Dk.key { (⟨newNm, b, 0⟩ : Dk.Fl) with s := b.length } (newL o b 0) = newL o b b.length := by
 cases o with
 | none => rfl
 | some c => rfl
theorem new_ren (o : Option (List UInt8)) (b : List UInt8) : Dk.put Dk.key { (⟨newNm, b, b.length⟩ : Dk.Fl) with nm := logNm } (Dk.wo Dk.key newNm.data.toList (Dk.wo Dk.key logNm.data.toList (newL o b b.length))) = filesOf (some b) := by
 cases o with
 | none => rfl
 | some c => rfl
theorem new_tot (o : Option (List UInt8)) (b : List UInt8) : Dk.total (filesOf (some b)) = Dk.total (Dk.wo Dk.key logNm.data.toList (newL o b b.length)) := by
 cases o with
 | none => rfl
 | some c => rfl
theorem new_opF (o : Option (List UInt8)) : (opF newNm (filesOf o)).l = [] := by
 unfold opF
 rw [new_none]
 rfl
theorem filesOf_len (o : Option (List UInt8)) : (filesOf o).length ≤ 1 := by cases o <;> simp [filesOf]
theorem vreplace_any {w : World} {B : Nat} {d : Value} {cap db mb : Nat} {L : List Fr} {o : Option (List UInt8)} (h : DkAt w B d cap (filesOf o) db mb L) {x : Value} {b : List UInt8} (hx : RdS w (fp db mb L) x b) (hl : b.length ≤ 1000000) :
  Calls Try.prog 38 #[d, x] w fun e w' => ∃ E o', e = .returned (.int .i64 E) ∧ DkStep w w' B d cap db mb L (filesOf o') ∧ ((E = 4 ∧ o' = o ∧ cap < (byt o).length + b.length) ∨ (E = 0 ∧ (byt o).length + b.length ≤ cap ∧ o' = some b)) := by
 have hlen := filesOf_len o
 have htot := filesOf_tot o
 have htn := newL_tot o b
 have hap := h.appendG (by omega) newNm (by decide) (by decide) hx hl (by rw [new_opF]; simp) (new_app o b) (by rw [newL_tot, filesOf_tot])
 have hdel := delete_no h.at_ newNm (by decide) (h.fnd_no (new_none o))
 have hnl : (newL o b b.length).length ≤ 100 := by unfold newL; simp; omega
 obtain ⟨A, c, rfl, -, -⟩ := hx.1.shapeM
 obtain rfl := h.at_.hd
 clear h hx
 go_enter Try.func38, Try.ntmps38
 go_wp2_with fail
 refine hdel.mono ?_
 rintro e w1 ⟨rfl, rfl⟩
 go_wp2_with fail
 refine hap.mono ?_
 rintro e w1 ⟨E, rfl, ⟨rfl, hf, st⟩ | ⟨rfl, hf, st⟩⟩
 ·clear hap hdel
  have HS := Lib.hid st
  clear st
  go_wp2_with fail
  go_ret
  exact ⟨4, o, rfl, HS.out, .inl ⟨rfl, rfl, by omega⟩⟩
 ·obtain ⟨L1, h1, k1, s1⟩ := st
  have hsy := h1.syncG newNm (by decide) (new_fnd o b 0) (new_sync o b) (by rw [htn, htn])
  have HK := Lib.hid k1
  have HS1 := Lib.hid s1
  clear hap hdel k1 s1 h1
  go_wp2_with fail
  refine hsy.mono ?_
  rintro e w2 ⟨⟨E, rfl⟩, L2, h2, k2, s2⟩
  have hre := h2.renG hnl newNm logNm (by decide) (by decide) (by decide) (by decide) (by decide) (new_fnd o b b.length) (new_ren o b) (new_tot o b) (by rw [filesOf_tot]; show b.length ≤ cap; omega)
  have HK2 := Lib.hid k2
  have HS2 := Lib.hid s2
  clear hsy k2 s2 h2
  go_wp2_with fail
  refine hre.mono ?_
  rintro e w3 ⟨rfl, st3⟩
  have HF := Lib.hid (DkStep.after HK.out HS1.out (DkStep.after HK2.out HS2.out st3))
  clear hre st3
  go_wp2_with fail
  go_ret
  exact ⟨0, some b, rfl, HF.out, .inr ⟨rfl, by omega, rfl⟩⟩
end Go.Proofs.Ytaddbhdkgneiaaa.Ce
namespace Go.Proofs.Ytaddbhdkgneiaaa.Ce
open Go.RowKit Dk
def lgC (d : Value) (most : Int) (mb : Nat) : Array Value := #[d, .int .i64 most, .map (some mb)]
def OwnL (w : World) (d : Value) (lb : Nat) (g : Lg) (T : List Nat) : Prop :=
 ∃ db mb Q, d = .pointer (some ⟨db, 0, none⟩) ∧ SyAt w lb 1 (lgC d g.most mb) 68 g.most mb Q ∧ pv Q = g.votes ∧ T = lb :: vfp mb Q
theorem OwnL.keep {w w' : World} {d : Value} {lb : Nat} {g : Lg} {T : List Nat} (h : OwnL w d lb g T) (hk : ∀ k ∈ T, w'.heap[k]? = w.heap[k]?) : OwnL w' d lb g T := by
 obtain ⟨db, mb, Q, e, hs, hv, rfl⟩ := h
 exact ⟨db, mb, Q, e, hs.keep (hk lb (by simp)) (fun k hm => hk k (List.mem_cons_of_mem _ hm)), hv, rfl⟩
theorem OwnL.lt {w : World} {d : Value} {lb : Nat} {g : Lg} {T : List Nat} (h : OwnL w d lb g T) : ∀ k ∈ T, k < w.heap.size := by
 obtain ⟨db, mb, Q, e, hs, hv, rfl⟩ := h
 intro k hk
 rcases List.mem_cons.1 hk with rfl | hk
 ·exact hs.lt
 ·exact hs.vm.lt k hk
theorem OwnL.up {w w' : World} {d : Value} {lb : Nat} {g : Lg} {T : List Nat} (h : OwnL w d lb g T) (hb : Below w.heap.size w w') : OwnL w' d lb g T := h.keep fun k hk => hb.block k (h.lt k hk)
theorem OwnL.same {w : World} {d : Value} {lb : Nat} {g g' : Lg} {T : List Nat} (h : OwnL w d lb g T) (h1 : g'.most = g.most) (h2 : g'.votes = g.votes) : OwnL w d lb g' T := by
 obtain ⟨db, mb, Q, e, hs, hv, rfl⟩ := h
 exact ⟨db, mb, Q, e, by rw [h1]; exact hs, by rw [h2]; exact hv, rfl⟩
theorem pv_len {Q : List Pv} {g : Lg} (h : pv Q = g.votes) (hg : g.Ok) : Q.length ≤ 1000000 := by
 have := hg.len
 rw [← h] at this
 unfold pv at this
 simp at this
 omega
theorem vmedium_any {w : World} {d : Value} {lb : Nat} {g : Lg} {T : List Nat} (h : OwnL w d lb g T) :
  Calls Try.prog 28 #[.pointer (some ⟨lb, 0, none⟩)] w fun e w' => e = .returned d ∧ w = w' := by
 obtain ⟨db, mb, Q, rfl, hs, -, -⟩ := h
 have c0 : w.cell? ⟨lb, 0, none⟩ = some (.pointer (some ⟨db, 0, none⟩)) := (cell_of_row _ _ 0 _ _ _ hs.row).trans rfl
 clear hs
 go_enter Try.func28, Try.ntmps28
 go_wp2
 go_ret
 exact ⟨rfl, rfl⟩
theorem vpromised_any {w : World} {d : Value} {lb : Nat} {g : Lg} {T : List Nat} (h : OwnL w d lb g T) :
  Calls Try.prog 13 #[.pointer (some ⟨lb, 0, none⟩)] w fun e w' => e = .returned (.int .i64 g.most) ∧ Below w.heap.size w w' := by
 obtain ⟨db, mb, Q, rfl, hs, -, -⟩ := h
 have c1 := hs.at0
 clear hs
 go_enter Try.func13, Try.ntmps13
 go_wp2
 go_ret
 exact ⟨rfl, Below.refl _ _⟩
theorem vvotes_any {w : World} {d : Value} {lb : Nat} {g : Lg} {T : List Nat} (h : OwnL w d lb g T) (hg : g.Ok) :
  Calls Try.prog 14 #[.pointer (some ⟨lb, 0, none⟩)] w fun e w' => (∃ v, e = .returned v ∧ St.OwS vtL w' w.heap.size v g.votes) ∧ Below w.heap.size w w' := by
 obtain ⟨db, mb, Q, rfl, hs, hv, -⟩ := h
 have hl := vlist_any hs (pv_len hv hg)
 rw [hv] at hl
 clear hs
 go_enter Try.func14, Try.ntmps14
 go_wp2_with fail
 refine hl.mono ?_
 rintro e w1 ⟨⟨v, rfl, ho⟩, hb⟩
 go_wp2_with fail
 go_ret
 exact ⟨⟨v, rfl, ho⟩, hb⟩
theorem vsize_any {w : World} {B : Nat} {d : Value} {cap : Nat} {o : Option (List UInt8)} {lb : Nat} {g : Lg} {S : List Nat} (h : LogAt OwnL w B d cap o lb g S) :
  Calls Try.prog 19 #[.pointer (some ⟨lb, 0, none⟩)] w fun e w' => e = .returned (.int .i64 ((byt o).length : Int)) ∧ Below w.heap.size w w' := by
 obtain ⟨db, mb, L, T, h1, h2, h3, h4, rfl⟩ := h
 have hm := vmedium_any h2
 have hr := h1.read_any
 clear h1 h2 h3 h4
 go_enter Try.func19, Try.ntmps19
 go_wp2_with fail
 refine hm.mono ?_
 rintro e w1 ⟨rfl, rfl⟩
 go_wp2_with fail
 refine hr.mono ?_
 rintro e w1 ⟨⟨v, E, rfl, ho⟩, hb⟩
 obtain ⟨A, c, rfl, -, -⟩ := ho.rd.shapeM
 clear ho hm hr
 go_wp2_with fail
 go_ret
 exact ⟨rfl, hb⟩
inductive WrEnd (cap : Nat) (o : Option (List UInt8)) (g : Lg) (n : Int) (c : Vt) (s : List UInt8) : Int → Option (List UInt8) → Lg → Prop
 | full (hf : cap < (byt o).length + (12 + s.length)) : WrEnd cap o g n c s 4 o g
 | ok (hf : (byt o).length + (12 + s.length) ≤ cap) : WrEnd cap o g n c s 0 (some (byt o ++ Frm.frm s)) (g.one n c s.length)
theorem LogStep.mk2 {w w' : World} {B : Nat} {d : Value} {cap : Nat} {o' : Option (List UInt8)} {lb db mb : Nat} {L L' : List Fr} {T T' : List Nat} {g' : Lg} (h1 : LDisk w' B d cap o' db mb L') (hT : OwnL w' d lb g' T') (hw : LogWf o' g') (hap : ∀ k ∈ T', k ∉ fp db mb L' ∧ B ≤ k) (hk : Kp (T ++ fp db mb L) w w') (hs : ∀ k ∈ T', k ∈ T ∨ w.heap.size ≤ k) (hf : ∀ k ∈ fp db mb L', k ∈ fp db mb L ∨ w.heap.size ≤ k) : LogStep OwnL w w' B d cap (T ++ fp db mb L) o' lb g' := by
 refine ⟨T' ++ fp db mb L', ⟨db, mb, L', T', h1, hT, hw, hap, rfl⟩, hk, fun k hm => ?_⟩
 rcases List.mem_append.1 hm with hm | hm
 ·exact (hs k hm).imp (fun h => by simp [h]) id
 ·exact (hf k hm).imp (fun h => by simp [h]) id
theorem own_apart {w : World} {B : Nat} {db mb : Nat} {L L' : List Fr} {T : List Nat} (h4 : ∀ k ∈ T, k ∉ fp db mb L ∧ B ≤ k) (hlt : ∀ k ∈ T, k < w.heap.size) (hf : ∀ k ∈ fp db mb L', k ∈ fp db mb L ∨ w.heap.size ≤ k) : ∀ k ∈ T, k ∉ fp db mb L' ∧ B ≤ k := fun k hk => ⟨fun hm => by
 rcases hf k hm with h | h
 ·exact (h4 k hk).1 h
 ·have := hlt k hk
  omega, (h4 k hk).2⟩
theorem LogStep.disk {w w' : World} {B : Nat} {d : Value} {cap : Nat} {o' : Option (List UInt8)} {lb db mb : Nat} {L : List Fr} {T : List Nat} {g g' : Lg} (hd : DkStep w w' B d cap db mb L (filesOf o')) (hT : OwnL w d lb g T) (h1 : g'.most = g.most) (h2 : g'.votes = g.votes) (hw : LogWf o' g') (h4 : ∀ k ∈ T, k ∉ fp db mb L ∧ B ≤ k) : LogStep OwnL w w' B d cap (T ++ fp db mb L) o' lb g' := by
 obtain ⟨L', k1, k2, k3⟩ := hd
 exact LogStep.mk2 k1.ld ((hT.keep fun k hk => k2.block k (hT.lt k hk) (h4 k hk).1).same h1 h2) hw (own_apart h4 hT.lt k3) ⟨k2.os, k2.tape, k2.output, k2.size, fun k hk hn => k2.block k hk fun hm => hn (by simp [hm])⟩ (fun k hk => .inl hk) k3
def WrStep (w : World) (B : Nat) (d : Value) (cap : Nat) (o : Option (List UInt8)) (lb : Nat) (g : Lg) (S : List Nat) (n : Int) (c : Vt) (s : List UInt8) (e : Ending) (w' : World) : Prop :=
 ∃ E o' g', e = .returned (.int .i64 E) ∧ WrEnd cap o g n c s E o' g' ∧ LogStep OwnL w w' B d cap S o' lb g'
theorem WrStep.of {w w3 w4 : World} {B : Nat} {d : Value} {cap : Nat} {o : Option (List UInt8)} {lb db mb vb : Nat} {g : Lg} {Q : List Pv} {L L3 : List Fr} {n : Int} {c : Vt} {s : List UInt8} (hd : ∃ q, d = .pointer (some ⟨q, 0, none⟩)) (hw : LogWf o g) (hs : Says s n c true) (hl : s.length ≤ 65535) (hcap : (byt o).length + (12 + s.length) ≤ cap) (hlt : ∀ k ∈ lb :: vfp vb Q, k < w.heap.size) (h4 : ∀ k ∈ lb :: vfp vb Q, k ∉ fp db mb L ∧ B ≤ k)
  (hB : B ≤ w.heap.size) (h3 : LDisk w3 B d cap (some (byt o ++ Frm.frm s)) db mb L3) (hk3 : Kp (fp db mb L) w w3) (hf3 : ∀ k ∈ fp db mb L3, k ∈ fp db mb L ∨ w.heap.size ≤ k) (he : AddEnd w3 w4 lb 1 (lgC d g.most vb) 68 vb Q (g.one n c s.length)) : WrStep w B d cap o lb g ((lb :: vfp vb Q) ++ fp db mb L) n c s (.returned (.int .i64 0)) w4 := by
 obtain ⟨Q', e1, e2, e3, e4⟩ := he
 obtain ⟨q, hq⟩ := hd
 have hz := hk3.size
 have h2b : ∀ k ∈ [lb, vb], k ∈ lb :: vfp vb Q := fun k hk => by
  simp only [List.mem_cons, List.not_mem_nil, or_false] at hk
  rcases hk with rfl | rfl
  ·simp
  ·simp [vfp]
 have hap := own_apart (L' := L3) h4 hlt hf3
 have hlt3 := h3.at_.lt
 refine ⟨0, _, _, rfl, .ok hcap, LogStep.mk2 (h3.keep (fun k hk => e3.block k (hlt3 k hk) fun hm => (hap k (h2b k hm)).1 hk) e3.size) ⟨q, vb, Q', hq, e1, e2, rfl⟩ (hw.app hl hs) (fun k hk => ?_) ?_ (fun k hk => ?_) hf3⟩
 ·rcases List.mem_cons.1 hk with rfl | hk
  ·exact hap _ (by simp)
  ·rcases e4 k hk with h | h
   ·exact hap k (List.mem_cons_of_mem _ h)
   ·exact ⟨fun hm => by have := hlt3 k hm; omega, by omega⟩
 ·have k1 : Kp ((lb :: vfp vb Q) ++ fp db mb L) w w3 := ⟨hk3.os, hk3.tape, hk3.output, hk3.size, fun k hk hn => hk3.block k hk fun hm => hn (List.mem_append_right _ hm)⟩
  exact k1.trans e3 fun x hx => .inl (List.mem_append_left _ (h2b x hx))
 ·rcases List.mem_cons.1 hk with rfl | hk
  ·exact .inl (by simp)
  ·rcases e4 k hk with h | h
   ·exact .inl (List.mem_cons_of_mem _ h)
   ·exact .inr (Nat.le_trans hz h)
theorem vwrite_any {w : World} {B : Nat} {d : Value} {cap : Nat} {o : Option (List UInt8)} {lb : Nat} {g : Lg} {S : List Nat} (h : LogAt OwnL w B d cap o lb g S) {x : Value} {s : List UInt8} (hx : RdS w S x s) (hl : s.length ≤ 65535) {n : Int} {c : Vt} (hs : Says s n c true) :
  Calls Try.prog 34 #[.pointer (some ⟨lb, 0, none⟩), x] w fun e w' => WrStep w B d cap o lb g S n c s e w' := by
 obtain ⟨db, mb, L, T, h1, h2, h3, h4, rfl⟩ := h
 have HFL := Lib.hid (Frm.frm_len s)
 have hm := vmedium_any h2
 have hpu := fput_ok x s w hx.1 hl
 obtain ⟨Ax, cx, rfl, -, -⟩ := hx.1.shapeM
 have HX := Lib.hid hx
 have H1 := Lib.hid h1
 have H2 := Lib.hid h2
 have H3 := Lib.hid h3
 have H4 := Lib.hid h4
 have HS := Lib.hid hs
 clear hx h1 h2 h3 h4 hs
 go_enter Try.func34, Try.ntmps34
 go_wp2_with fail
 refine hm.mono ?_
 rintro e w0 ⟨rfl, rfl⟩
 go_wp2_with fail
 refine hpu.mono ?_
 rintro e w1 ⟨⟨u, rfl, hu⟩, hb1⟩
 have hu1 : RdS w1 (fp db mb L) u (Frm.frm s) := hu.rdS H1.out.at_.lt
 have hap := (H1.out.dk.up hb1).append (FilAt.of o) hu1 (by have := HFL.out; omega)
 have HB1 := Lib.hid hb1
 obtain ⟨Au, cu, rfl, -, -⟩ := hu.rd.shapeM
 clear hm hpu hu hu1 hb1
 obtain ⟨db', e⟩ : ∃ db', d = .pointer (some ⟨db', 0, none⟩) := ⟨_, H1.out.at_.hd⟩
 subst e
 go_wp2_with fail
 refine hap.mono ?_
 rintro e w2 ⟨E, M', rfl, ⟨L2, k1, k2, k3⟩, ⟨rfl, rfl, hf⟩ | ⟨rfl, hf, s0, hs0, rfl, -⟩⟩
 ·have HE := Lib.hid (LogStep.disk (DkStep.after (Kp.of_below HB1.out _) (fun k hk => .inl hk) ⟨L2, k1, k2, k3⟩) H2.out rfl rfl H3.out H4.out)
  clear hap k1 k2 k3
  go_wp2_with fail
  go_ret
  exact ⟨4, o, g, rfl, .full (by have := HFL.out; omega), HE.out⟩
 ·have hT2 : OwnL w2 (.pointer (some ⟨db', 0, none⟩)) lb g T := (H2.out.up HB1.out).keep fun k hk => k2.block k ((H2.out.up HB1.out).lt k hk) (H4.out k hk).1
  have hm2 := vmedium_any hT2
  have hsy := k1.sync (o := some (byt o ++ Frm.frm s)) (.some _ _ (by rw [List.length_append]; omega))
  have HK2 := Lib.hid k2
  have HK3 := Lib.hid k3
  have HT2 := Lib.hid hT2
  clear hap k1 k2 k3 hT2
  go_wp2_with fail
  refine hm2.mono ?_
  rintro e w2' ⟨rfl, rfl⟩
  clear hm2
  go_wp2_with fail
  refine hsy.mono ?_
  rintro e w3 ⟨⟨E, rfl⟩, L3, k4, k5, k6⟩
  clear hsy
  have hz1 := HB1.out.size
  have hz2 := HK2.out.size
  have hf2 : ∀ k ∈ fp db mb L2, k ∈ fp db mb L ∨ w.heap.size ≤ k := fun k hk => (HK3.out k hk).imp id fun h => Nat.le_trans hz1 h
  have hf3 : ∀ k ∈ fp db mb L3, k ∈ fp db mb L ∨ w.heap.size ≤ k := fun k hk => by
   rcases k6 k hk with h | h
   ·exact hf2 k h
   ·exact .inr (by omega)
  have hk3 : Kp (fp db mb L) w w3 := ((Kp.of_below HB1.out _).trans HK2.out fun k hk => .inl hk).trans k5 hf2
  have hT3 := H2.out.keep (w' := w3) fun k hk => hk3.block k (H2.out.lt k hk) (H4.out k hk).1
  have hx3 := (RdV.up (S := T ++ fp db mb L) (S' := []) HX.out ⟨hk3.os, hk3.tape, hk3.output, hk3.size, fun k hk hn => hk3.block k hk fun hm => hn (List.mem_append_right _ hm)⟩ (by simp)).1
  have h4' := H4.out
  have hlt' := H2.out.lt
  obtain ⟨q, vb, Q, hq, hSy, hpv, rfl⟩ := hT3
  have hadd := vadd_any hSy hpv H3.out.ok (pv_len hpv H3.out.ok) _ s hx3 (by omega)
  have HF := Lib.hid fun w4 he => WrStep.of (w4 := w4) ⟨_, rfl⟩ H3.out HS.out hl (by have := HFL.out; omega) hlt' h4' H1.out.hB k4.ld hk3 hf3 he
  clear k4 k5 k6 hf2 hf3 hk3 hx3 hSy h4' hlt' HX HT2 HK2 HK3 HB1 hq hpv hz1 hz2 hs0 hf hl HFL H1 H2 H3 H4
  go_wp2_with fail
  refine hadd.mono ?_
  rintro e w4 he
  clear hadd
  cases he with
  | no _ hn hb => cases (hn.uniq HS.out).2.2
  | yes _ n' c' hs' he =>
   obtain ⟨rfl, rfl, -⟩ := hs'.uniq HS.out
   have HE := Lib.hid (HF.out _ he)
   clear he HF
   go_wp2_with fail
   go_ret
   exact HE.out
end Go.Proofs.Ytaddbhdkgneiaaa.Ce
namespace Go.Proofs.Ytaddbhdkgneiaaa.Ce
open Go.RowKit Dk
section
variable {w w1 w2 : World} {B : Nat} {d : Value} {cap : Nat} {o o' : Option (List UInt8)} {lb : Nat} {g g' : Lg} {S : List Nat}
theorem LogAt.upL (h : LogAt OwnL w B d cap o lb g S) (hb : Below w.heap.size w w1) : LogAt OwnL w1 B d cap o lb g S := by
 obtain ⟨db, mb, L, T, h1, h2, h3, h4, rfl⟩ := h
 exact ⟨db, mb, L, T, h1.keep (fun k hk => hb.block k (h1.at_.lt k hk)) hb.size, h2.up hb, h3, h4, rfl⟩
theorem LogAt.ltL (h : LogAt OwnL w B d cap o lb g S) : ∀ k ∈ S, k < w.heap.size := by
 obtain ⟨db, mb, L, T, h1, h2, h3, h4, rfl⟩ := h
 intro k hk
 rcases List.mem_append.1 hk with hk | hk
 ·exact h2.lt k hk
 ·exact h1.at_.lt k hk
theorem LogStep.pre (hb : Below w.heap.size w w1) (h : LogStep OwnL w1 w2 B d cap S o' lb g') : LogStep OwnL w w2 B d cap S o' lb g' := by
 obtain ⟨S', h1, h2, h3⟩ := h
 exact ⟨S', h1, (Kp.of_below hb S).trans h2 fun _ hk => .inl hk, fun k hk => (h3 k hk).imp id fun h => Nat.le_trans hb.size h⟩
theorem LogStep.stay (h : LogAt OwnL w B d cap o lb g S) (hb : Below w.heap.size w w1) : LogStep OwnL w w1 B d cap S o lb g := ⟨S, h.upL hb, Kp.of_below hb S, fun _ hk => .inl hk⟩
theorem LogAt.own (h : LogAt OwnL w B d cap o lb g S) : ∃ T, OwnL w d lb g T := by
 obtain ⟨db, mb, L, T, h1, h2, h3, h4, rfl⟩ := h
 exact ⟨T, h2⟩
def PromStep (w : World) (B : Nat) (d : Value) (cap : Nat) (o : Option (List UInt8)) (lb : Nat) (g : Lg) (S : List Nat) (b : Int) (e : Ending) (w' : World) : Prop :=
 ∃ E o' g', e = .returned (.int .i64 E) ∧ PromEnd cap o g b E o' g' ∧ LogStep OwnL w w' B d cap S o' lb g'
theorem PromStep.of {b : Int} {e : Ending} (hb : Below w.heap.size w w1) (h : PrOk b ∧ g.most < b) (hw : WrStep w1 B d cap o lb g S b Vt.zero (prB b) e w2) : PromStep w B d cap o lb g S b e w2 := by
 obtain ⟨E, o', g', rfl, hE, hs⟩ := hw
 refine ⟨E, o', g', rfl, ?_, hs.pre hb⟩
 have hl := prB_len b
 cases hE with
 | full hf => exact .full h (by omega)
 | ok hf => rw [hl]; exact .ok h (by omega)
def VoteStep (w : World) (B : Nat) (d : Value) (cap : Nat) (o : Option (List UInt8)) (lb : Nat) (g : Lg) (S : List Nat) (c : Vt) (e : Ending) (w' : World) : Prop :=
 ∃ E o' g', e = .returned (.int .i64 E) ∧ VoteEnd cap o g c E o' g' ∧ LogStep OwnL w w' B d cap S o' lb g'
theorem VoteStep.of {c : Vt} {e : Ending} (hb : Below w.heap.size w w1) (h : c.Right ∧ g.most ≤ c.ballot) (hw : WrStep w1 B d cap o lb g S 0 c (vtB c) e w2) : VoteStep w B d cap o lb g S c e w2 := by
 obtain ⟨E, o', g', rfl, hE, hs⟩ := hw
 refine ⟨E, o', g', rfl, ?_, hs.pre hb⟩
 cases hE with
 | full hf => exact .full h hf
 | ok hf => exact .ok h hf
end
theorem vprom_any {w : World} {B : Nat} {d : Value} {cap : Nat} {o : Option (List UInt8)} {lb : Nat} {g : Lg} {S : List Nat} (b : Int) (h : LogAt OwnL w B d cap o lb g S) :
  Calls Try.prog 18 #[.pointer (some ⟨lb, 0, none⟩), .int .i64 b] w fun e w' => PromStep w B d cap o lb g S b e w' := by
 obtain ⟨T, hT⟩ := h.own
 obtain ⟨q, mb, Q, -, hSy, -, -⟩ := hT
 have m0 := hSy.at0
 have H := Lib.hid h
 clear hSy h
 by_cases hle : b ≤ g.most
 ·have HF : Hid (PromStep w B d cap o lb g S b (.returned (.int .i64 1)) w) := Lib.hid ⟨1, o, g, rfl, .arg (by omega), LogStep.stay H.out (Below.refl _ _)⟩
  clear H
  go_enter Try.func18, Try.ntmps18
  go_wp2_with fail
  go_ret
  exact HF.out
 ·have hlt : g.most < b := by omega
  by_cases hp : PrOk b
  ·have hpr := sprom_yes b w hp
   have hsl := prB_len b
   have HP := Lib.hid hp
   have HS := Lib.hid (Says.promise hp)
   clear hp
   go_enter Try.func18, Try.ntmps18
   go_wp2_with fail
   refine hpr.mono ?_
   rintro e w1 ⟨u, rfl, hu, hb1⟩
   have hwr := vwrite_any (H.out.upL hb1) (hu.rdS H.out.ltL) (by omega) HS.out
   have HB := Lib.hid hb1
   obtain ⟨Au, cu, rfl, -, -⟩ := hu.rd.shapeM
   clear hpr hu hb1 m0 hsl HS
   go_wp2_with fail
   refine hwr.mono ?_
   rintro e w2 hE
   have HE := Lib.hid (PromStep.of HB.out ⟨HP.out, hlt⟩ hE)
   obtain ⟨E, o', g', rfl, -, -⟩ := hE
   clear hwr
   go_wp2_with fail
   go_ret
   exact HE.out
  ·have hpr := sprom_not b w hp
   have HF : Hid (∀ w1, Below w.heap.size w w1 → PromStep w B d cap o lb g S b (.returned (.int .i64 1)) w1) := Lib.hid fun w1 hb => ⟨1, o, g, rfl, .arg (fun h => hp h.1), LogStep.stay H.out hb⟩
   clear H hp
   go_enter Try.func18, Try.ntmps18
   go_wp2_with fail
   refine hpr.mono ?_
   rintro e w1 ⟨A, cp, rfl, hb1⟩
   have HE := Lib.hid (HF.out _ hb1)
   clear hpr hb1 HF
   go_wp2_with fail
   go_ret
   exact HE.out
theorem vvote2_any {w : World} {B : Nat} {d : Value} {cap : Nat} {o : Option (List UInt8)} {lb : Nat} {g : Lg} {S : List Nat} (c : Vt) (h : LogAt OwnL w B d cap o lb g S) :
  Calls Try.prog 17 #[.pointer (some ⟨lb, 0, none⟩), c.v] w fun e w' => VoteStep w B d cap o lb g S c e w' := by
 obtain ⟨T, hT⟩ := h.own
 obtain ⟨q, mb, Q, -, hSy, -, -⟩ := hT
 have HSY := Lib.hid hSy
 have H := Lib.hid h
 have HF : Hid (∀ w1, Below w.heap.size w w1 → ¬ (c.Right ∧ g.most ≤ c.ballot) → VoteStep w B d cap o lb g S c (.returned (.int .i64 1)) w1) := Lib.hid fun w1 hb hn => ⟨1, o, g, rfl, .arg hn, LogStep.stay H.out hb⟩
 clear hSy h
 go_enter Try.func17, Try.ntmps17
 go_wp2_with (refine St.box vtD rfl (.tmp 1) c rfl rfl ?_)
 constructor
 intro w1 hI1 hb1 hz1
 clear hz1
 by_cases hr : c.Right
 ·have hpu := sput_yes c w1 hr
  go_wp2_with (refine St.load vtOk rfl (.tmp 3) rfl rfl hI1 ?_)
  refine hpu.mono ?_
  rintro e w2 ⟨u, rfl, hu, hb2⟩
  have hI2 := hI1.up hb2
  have hb12 := hb1.trans (hb2.mono hb1.size)
  have m0 := (HSY.out.up hb12).at0
  have q1 := (VtAt.of hI2).c1
  have HU := Lib.hid hu
  obtain ⟨Au, cu, rfl, -, -⟩ := hu.rd.shapeM
  have HB := Lib.hid hb12
  have HZ := Lib.hid hb1.size
  have HR := Lib.hid hr
  clear hpu hI1 hb1 hb2 hI2 hu hb12 hr
  by_cases hlt : c.ballot < g.most
  ·go_wp2_with fail
   go_quiet (fail)
   go_wp2_with fail
   go_ret
   exact HF.out _ (below_drewN HB.out nq) (fun h => by omega)
  ·go_wp2_with fail
   go_quiet (fail)
   have hb3 := below_drewN HB.out nq
   have hwr := vwrite_any (H.out.upL hb3) ((HU.out.below (below_drewN (Below.refl _ _) nq)).rdS fun k hk => Nat.lt_of_lt_of_le (H.out.ltL k hk) HZ.out) (by have := vt_short HR.out; omega) (Says.put HR.out)
   have HB3 := Lib.hid hb3
   generalize w2.drewN nq = w3 at hwr HB3 ⊢
   clear m0 q1 hb3 HU
   go_wp2_with fail
   refine hwr.mono ?_
   rintro e w4 hE
   have HE := Lib.hid (VoteStep.of HB3.out ⟨HR.out, by omega⟩ hE)
   obtain ⟨E, o', g', rfl, -, -⟩ := hE
   clear hwr
   go_wp2_with fail
   go_ret
   exact HE.out
 ·have hpu := sput_not c w1 hr
  have HE := Lib.hid fun z hz => HF.out z hz fun h => hr h.1
  clear H HSY HF hr
  go_wp2_with (refine St.load vtOk rfl (.tmp 3) rfl rfl hI1 ?_)
  refine hpu.mono ?_
  rintro e w2 ⟨A, cp, rfl, hb2⟩
  have HX := Lib.hid (HE.out _ (hb1.trans (hb2.mono hb1.size)))
  clear hpu hb2 hb1 hI1 HE
  go_wp2_with fail
  go_ret
  exact HX.out
end Go.Proofs.Ytaddbhdkgneiaaa.Ce
namespace Go.Proofs.Ytaddbhdkgneiaaa.Ce
open Go.RowKit Dk
abbrev lgD : St.Sp (Option Nat × Int × Option Nat) := ⟨68, 0, 3, 24, fun p => #[.pointer (p.1.map fun b => ⟨b, 0, none⟩), .int .i64 p.2.1, .map p.2.2], (none, 0, none)⟩
theorem vmedium_c {w : World} {db lb : Nat} (c0 : w.cell? ⟨lb, 0, none⟩ = some (.pointer (some ⟨db, 0, none⟩))) :
  Calls Try.prog 28 #[.pointer (some ⟨lb, 0, none⟩)] w fun e w' => e = .returned (.pointer (some ⟨db, 0, none⟩)) ∧ w = w' := by
 go_enter Try.func28, Try.ntmps28
 go_wp2
 go_ret
 exact ⟨rfl, rfl⟩
def OpenStep (w : World) (B : Nat) (d : Value) (cap : Nat) (o : Option (List UInt8)) (db mb : Nat) (L : List Fr) (R : List (List UInt8)) (e : Ending) (w' : World) : Prop :=
 ∃ lb L' T, e = .returned (.pointer (some ⟨lb, 0, none⟩)) ∧ LDisk w' B d cap (openO o R) db mb L' ∧ OwnL w' d lb (Lg.nil.reads R) T ∧ (∀ k ∈ T, w.heap.size ≤ k ∧ k ∉ fp db mb L') ∧ Kp (fp db mb L) w w' ∧ ∀ k ∈ fp db mb L', k ∈ fp db mb L ∨ w.heap.size ≤ k
theorem OpenStep.of {w w6 w8 : World} {B : Nat} {d : Value} {cap : Nat} {o : Option (List UInt8)} {lb db mb : Nat} {L L8 : List Fr} {R : List (List UInt8)} {T : List Nat} (hB : Below w.heap.size w w6) (hlt : ∀ k ∈ fp db mb L, k < w.heap.size) (hT : OwnL w6 d lb (Lg.nil.reads R) T) (hge : ∀ k ∈ T, w.heap.size ≤ k) (h8 : DkAt w8 B d cap (filesOf (openO o R)) db mb L8) (hk : Kp (fp db mb L) w6 w8) (hs : ∀ k ∈ fp db mb L8, k ∈ fp db mb L ∨ w6.heap.size ≤ k) : OpenStep w B d cap o db mb L R (.returned (.pointer (some ⟨lb, 0, none⟩))) w8 := by
 have hne : ∀ k ∈ T, k ∉ fp db mb L := fun k hk' hm => by have := hge k hk'; have := hlt k hm; omega
 have hz := hB.size
 refine ⟨lb, L8, T, rfl, h8.ld, hT.keep fun k hk' => hk.block k (hT.lt k hk') (hne k hk'), fun k hk' => ⟨hge k hk', fun hm => ?_⟩, (Kp.of_below hB _).trans hk fun k hk => .inl hk, fun k hk' => (hs k hk').imp id fun h => by omega⟩
 rcases hs k hm with h | h
 ·exact hne k hk' h
 ·have := hT.lt k hk'
  omega
theorem vopen_any {w : World} {B : Nat} {d : Value} {db mb cap : Nat} {L : List Fr} {o : Option (List UInt8)} {R : List (List UInt8)} {m : List UInt8} (hd : DiskAt w B d db mb cap (byt o).length L) (hf : FilAt (L.map Fr.fl) o) (hlen : (byt o).length ≤ cap) (hcap : cap ≤ 65536) (hB : B ≤ w.heap.size) (hs : Frm.Scanned (byt o) R m) :
  Calls Try.prog 10 #[d] w fun e w' => OpenStep w B d cap o db mb L R e w' := by
 have h0 : DkAt w B d cap (L.map Fr.fl) db mb L := ⟨by rw [hf.tot]; exact hd, rfl, hcap, by rw [hf.tot]; exact hlen, hB⟩
 have hul := used_le hs
 obtain rfl := hd.hd
 have HLT := Lib.hid hd.lt
 have H0 := Lib.hid h0
 have HF := Lib.hid hf
 have HS := Lib.hid hs
 clear hd h0 hf hs
 go_enter Try.func10, Try.ntmps10
 go_wp2_with (refine St.box lgD rfl (.tmp 9) (some db, 0, none) rfl rfl ?_)
 constructor
 intro w1 hI1 hb1 hz1
 have hz1' : w.heap.size < w1.heap.size := by omega
 clear hz1
 have hm1 := vmedium_c (w := w1) (db := db) (lb := w.heap.size) (hI1.at_ rfl)
 have hrd := (H0.out.up hb1).read HF.out
 go_wp2_with fail
 refine hm1.mono ?_
 rintro e w1' ⟨rfl, rfl⟩
 clear hm1
 go_wp2_with fail
 refine hrd.mono ?_
 rintro e w2 ⟨⟨v, E, rfl, hv⟩, hb2⟩
 have hga := vgather_any v _ m R w2 hv.rd HS.out (by omega)
 obtain ⟨Av, cv, rfl, -, -⟩ := hv.rd.shapeM
 have hI2 := hI1.up hb2
 have hb12 := hb1.trans (hb2.mono hb1.size)
 have hz2 := hb2.size
 clear hrd hv hI1 hb1 hb2
 go_wp2_with fail
 refine hga.mono ?_
 rintro e w3 ⟨⟨vb, Q, rfl, hvm, hpv, hge⟩, hb3⟩
 have hI3 := hI2.up hb3
 have hb13 := hb12.trans (hb3.mono hb12.size)
 have hz3 := hb3.size
 clear hga hI2 hb12 hb3
 go_wp2_with (refine St.alloc syOk rfl rfl ?_)
 constructor
 intro w4 hI4 hb4 hz4
 clear hz4
 go_wp2_with (refine St.store syOk (c := ((Lg.nil.reads R).most, some vb)) rfl (.tmp 6) (.tmp 20) rfl rfl rfl hI4 ?_)
 constructor
 intro w5 hs5
 have hI5 := hs5.i
 have hb35 : Below w3.heap.size w3 w5 := hs5.bel hb4 (Nat.le_refl _)
 have hL5 := hI3.up hb35
 have hvm5 := hvm.up hb35
 have hb15 := hb13.trans (hb35.mono hb13.size)
 have hge2 : ∀ k ∈ vfp vb Q, w.heap.size < k := fun k hk => by have := hge k hk; omega
 have HPV := Lib.hid hpv
 clear hs5 hI4 hb4 hI3 hvm hb13 hb35 hge hpv
 go_wp2_with (first | (refine St.load syOk rfl (.tmp 6) rfl rfl hI5 ?_) | (refine St.storeAt syOk (c := ((Lg.nil.reads R).most, some vb)) (g := w.heap.size) (n := 1) rfl (.tmp 25) (.tmp 23) rfl rfl rfl hL5.h (by simp) ?_))
 constructor
 intro w6 ht6
 have hb6 : Below w.heap.size w w6 := hb15.trans ht6.b
 have hT6 : OwnL w6 (.pointer (some ⟨db, 0, none⟩)) w.heap.size (Lg.nil.reads R) (w.heap.size :: vfp vb Q) := ⟨db, vb, Q, rfl, ⟨ht6.i, rfl, rfl, hvm5.keep fun k hk => ht6.o k (by have := hge2 k hk; omega), by decide⟩, HPV.out, rfl⟩
 have hge6 : ∀ k ∈ w.heap.size :: vfp vb Q, w.heap.size ≤ k := fun k hk => by
  rcases List.mem_cons.1 hk with rfl | hk
  ·exact Nat.le_refl _
  ·exact Nat.le_of_lt (hge2 k hk)
 have hm6 := vmedium_any hT6
 have htr := (H0.out.up hb6).trim HF.out (Lg.nil.reads R).used hul
 have HE := Lib.hid fun w8 L8 (h8 : DkAt w8 B (.pointer (some ⟨db, 0, none⟩)) cap (filesOf (openO o R)) db mb L8) hk hs => OpenStep.of hb6 HLT.out hT6 hge6 h8 hk hs
 have HT6 := Lib.hid hT6
 have HNE : Hid (∀ k ∈ w.heap.size :: vfp vb Q, k ∉ fp db mb L) := Lib.hid fun k hk hm => by
  have := hge6 k hk
  have := HLT.out k hm
  omega
 clear hT6 hge6 hb6 ht6 HPV hge2 hb15 hvm5 hL5 hI5 HLT HS
 go_wp2_with fail
 refine hm6.mono ?_
 rintro e w6' ⟨rfl, rfl⟩
 clear hm6
 go_wp2_with fail
 refine htr.mono ?_
 rintro e w7 ⟨⟨E1, rfl⟩, M7, hf7, L7, h7, k7, s7⟩
 have hm7 := vmedium_any (HT6.out.keep fun k hk => k7.block k (HT6.out.lt k hk) (HNE.out k hk))
 have hsy := h7.sync hf7
 have HK := Lib.hid k7
 have HS7 := Lib.hid s7
 clear htr hf7 h7 k7 s7
 go_wp2_with fail
 refine hm7.mono ?_
 rintro e w7' ⟨rfl, rfl⟩
 clear hm7
 go_wp2_with fail
 refine hsy.mono ?_
 rintro e w8 ⟨⟨E2, rfl⟩, st⟩
 obtain ⟨L8, h8, k8, s8⟩ := DkStep.after HK.out HS7.out st
 have HX := Lib.hid (HE.out w8 L8 h8 k8 s8)
 clear hsy st h8 k8 s8 HE HT6 HNE HK HS7 H0 HF
 go_wp2_with fail
 go_ret
 exact HX.out
end Go.Proofs.Ytaddbhdkgneiaaa.Ce
